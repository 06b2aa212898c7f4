/-
  Package lattice: order: what it lays into the lattice that it is given.
  Package lattice: sound.
  Package lattice: New.
-/
import Derived.Test.YtkcmhdkhdjmjeaaGreatDoorLatA
import Derived.Test.YtkcmhdkhdjmjeaaGreatDoorPrs
import Derived.Test.YtkcmhdkhdjmjeaaGreatDoorReg
namespace Go.Proofs.YtkcmhdkhdjmjeaaGreatDoor
open Go.RowKit
set_option linter.unusedVariables false
set_option linter.unusedSimpArgs false

theorem LatMem.setUp {w : World} {b n : Nat} {up dn : Nat → Nat} (h : LatMem w b n up dn) {a v : Nat} (ha : a < 64) (hv : v < 2 ^ 64) :
    LatMem (w.setCell ⟨b, 1 + a, none⟩ (.int .u64 v)) b n (fun x => if x = a then v else up x) dn := by
  refine ⟨?_, fun x hx => ?_, fun x hx => ?_, fun i => ?_, fun x => ?_, h.ld⟩
  · rw [World.cell?_setCell_other _ _ _ _ (by simp)]; exact h.c0
  · by_cases e : x = a
    · subst e
      rw [if_pos rfl]
      exact World.cell?_setCell_same _ _ _ (h.cu x hx)
    · rw [if_neg e, World.cell?_setCell_other _ _ _ _ (by simp)]; exact h.cu x hx
  · rw [World.cell?_setCell_other _ _ _ _ (by simp)]; exact h.cd x hx
  · rw [World.frozen?_setCell]; exact h.fz i
  · split
    · exact hv
    · exact h.lu x
theorem LatMem.setDn {w : World} {b n : Nat} {up dn : Nat → Nat} (h : LatMem w b n up dn) {a v : Nat} (ha : a < 64) (hv : v < 2 ^ 64) :
    LatMem (w.setCell ⟨b, 65 + a, none⟩ (.int .u64 v)) b n up (fun x => if x = a then v else dn x) := by
  refine ⟨?_, fun x hx => ?_, fun x hx => ?_, fun i => ?_, h.lu, fun x => ?_⟩
  · rw [World.cell?_setCell_other _ _ _ _ (by simp)]; exact h.c0
  · rw [World.cell?_setCell_other _ _ _ _ (by simp)]; exact h.cu x hx
  · by_cases e : x = a
    · subst e
      rw [if_pos rfl]
      exact World.cell?_setCell_same _ _ _ (h.cd x hx)
    · rw [if_neg e, World.cell?_setCell_other _ _ _ _ (by simp)]; exact h.cd x hx
  · rw [World.frozen?_setCell]; exact h.fz i
  · split
    · exact hv
    · exact h.ld x
theorem LatMem.eq {w : World} {b n : Nat} {up dn up' dn' : Nat → Nat} (h : LatMem w b n up dn) (hu : ∀ a, up a = up' a) (hd : ∀ a, dn a = dn' a) : LatMem w b n up' dn' := by
  rw [← funext hu, ← funext hd]; exact h

/-! What lies above each, loop by loop. -/
def up1 (k a : Nat) : Nat := if a < k then 2 ^ a else 0
def up3 (n : Nat) (R : Rel) (k a x : Nat) : Nat := if x < a then upF n (warN R (k + 1)) x else upF n (warN R k) x
def dn5 (n : Nat) (R : Rel) (a j y : Nat) : Nat := if y < n then bitsOf (fun x => R x y && (decide (x < a) || decide (x = a) && decide (y < j))) n else 0
theorem up1_end (n a : Nat) : up1 n a = upF n (baseR []) a := by
  unfold up1 upF
  by_cases h : a < n
  · rw [if_pos h, if_pos h]
    apply Nat.eq_of_testBit_eq
    intro i
    rw [testBit_bitsOf, Nat.testBit_two_pow]
    simp only [baseR, List.contains_nil, Bool.or_false]
    by_cases e : a = i
    · subst e; simp [h]
    · simp [e]
  · rw [if_neg h, if_neg h]
theorem up1_step (k a : Nat) : (if a = k then 2 ^ k else up1 k a) = up1 (k + 1) a := by
  unfold up1
  by_cases h : a = k
  · subst h; simp
  · rw [if_neg h]
    by_cases h2 : a < k
    · rw [if_pos h2, if_pos (by omega)]
    · rw [if_neg h2, if_neg (by omega)]
theorem up2_step {n : Nat} {ps : List (Int × Int)} {k p q : Nat} (hk : k < ps.length) (he : ps[k] = ((p : Int), (q : Int))) (hp : p < n) (hq : q < n) (a : Nat) :
    (if a = p then upF n (baseR (ps.take k)) p ||| 2 ^ q else upF n (baseR (ps.take k)) a) = upF n (baseR (ps.take (k + 1))) a := by
  have ht : ps.take (k + 1) = ps.take k ++ [((p : Int), (q : Int))] := by rw [List.take_succ_eq_append_getElem hk, he]
  by_cases h : a < n
  · apply Nat.eq_of_testBit_eq
    intro i
    rw [testBit_upF h]
    by_cases e : a = p
    · subst e
      rw [if_pos rfl, Nat.testBit_or, testBit_upF h, Nat.testBit_two_pow, ht]
      by_cases hi : i < n
      · simp only [baseR, List.contains_append, List.contains_cons, List.contains_nil, Bool.or_false, decide_eq_true hi, Bool.true_and, ← Bool.or_assoc]
        congr 1
        apply Bool.eq_iff_iff.2
        simp
        omega
      · have : ¬ q = i := by omega
        simp [hi, this]
    · rw [if_neg e, testBit_upF h, ht]
      simp only [baseR, List.contains_append, List.contains_cons, List.contains_nil, Bool.or_false]
      have : (((a : Int), (i : Int)) == ((p : Int), (q : Int))) = false := by
        rw [Bool.eq_false_iff]; intro e2; apply e; simp at e2; omega
      rw [this, Bool.or_false]
  · have e : a ≠ p := by omega
    rw [if_neg e]
    unfold upF
    rw [if_neg h, if_neg h]
theorem warStep_row (R : Rel) (k b : Nat) : warStep k R k b = R k b := by
  unfold warStep
  cases R k b <;> simp
theorem up3_row {n : Nat} {R : Rel} {k a : Nat} : up3 n R k a k = upF n (warN R k) k := by
  unfold up3
  split
  · unfold upF
    split
    · apply Nat.eq_of_testBit_eq
      intro i
      rw [testBit_bitsOf, testBit_bitsOf, warN, warStep_row]
    · rfl
  · rfl
theorem up3_yes {n : Nat} {R : Rel} {k a : Nat} (ha : a < n) (hk : k < n) (h : warN R k a k = true) (x : Nat) :
    (if x = a then upF n (warN R k) a ||| upF n (warN R k) k else up3 n R k a x) = up3 n R k (a + 1) x := by
  unfold up3
  by_cases e : x = a
  · subst e
    rw [if_pos rfl, if_pos (by omega)]
    apply Nat.eq_of_testBit_eq
    intro i
    rw [Nat.testBit_or, testBit_upF ha, testBit_upF hk, testBit_upF ha, warN, warStep, h]
    cases decide (i < n) <;> simp
  · rw [if_neg e]
    by_cases h2 : x < a
    · rw [if_pos h2, if_pos (by omega)]
    · rw [if_neg h2, if_neg (by omega)]
theorem up3_no {n : Nat} {R : Rel} {k a : Nat} (ha : a < n) (hk : k < n) (h : warN R k a k = false) (x : Nat) :
    up3 n R k a x = up3 n R k (a + 1) x := by
  unfold up3
  by_cases e : x = a
  · subst e
    rw [if_neg (by omega), if_pos (by omega)]
    apply Nat.eq_of_testBit_eq
    intro i
    rw [testBit_upF ha, testBit_upF ha, warN, warStep, h]
    simp
  · by_cases h2 : x < a
    · rw [if_pos h2, if_pos (by omega)]
    · rw [if_neg h2, if_neg (by omega)]
theorem up3_start (n : Nat) (R : Rel) (k x : Nat) : upF n (warN R k) x = up3 n R k 0 x := by unfold up3; rw [if_neg (by omega)]
theorem up3_end (n : Nat) (R : Rel) (k x : Nat) : up3 n R k n x = upF n (warN R (k + 1)) x := by
  unfold up3
  split
  · rfl
  · unfold upF
    rw [if_neg (by assumption), if_neg (by assumption)]
theorem testBit_dn5 {n : Nat} {R : Rel} {a j y : Nat} (hy : y < n) (i : Nat) : (dn5 n R a j y).testBit i = (decide (i < n) && (R i y && (decide (i < a) || decide (i = a) && decide (y < j)))) := by
  rw [dn5, if_pos hy, testBit_bitsOf]
theorem dn5_start (n : Nat) (R : Rel) (y : Nat) : (0 : Nat) = dn5 n R 0 0 y := by
  by_cases hy : y < n
  · apply Nat.eq_of_testBit_eq
    intro i
    rw [testBit_dn5 hy]; simp
  · rw [dn5, if_neg hy]
theorem dn5_next (n : Nat) (R : Rel) (a y : Nat) : dn5 n R a n y = dn5 n R (a + 1) 0 y := by
  by_cases hy : y < n
  · apply Nat.eq_of_testBit_eq
    intro i
    rw [testBit_dn5 hy, testBit_dn5 hy]
    congr 2
    by_cases h1 : i < a
    · simp [h1]; omega
    · by_cases h2 : i = a
      · subst h2; simp [hy]
      · have : ¬ i < a + 1 := by omega
        simp [h1, h2, this]
  · rw [dn5, dn5, if_neg hy, if_neg hy]
theorem dn5_end (n : Nat) (R : Rel) (y : Nat) : dn5 n R n 0 y = upF n (flipR R) y := by
  by_cases hy : y < n
  · apply Nat.eq_of_testBit_eq
    intro i
    rw [testBit_dn5 hy, testBit_upF hy]
    by_cases hi : i < n <;> simp [hi, flipR]
  · rw [dn5, upF, if_neg hy, if_neg hy]
theorem dn5_yes {n : Nat} {R : Rel} {a j : Nat} (ha : a < n) (hj : j < n) (h : R a j = true) (y : Nat) :
    (if y = j then dn5 n R a j j ||| 2 ^ a else dn5 n R a j y) = dn5 n R a (j + 1) y := by
  by_cases hy : y < n
  · apply Nat.eq_of_testBit_eq
    intro i
    rw [testBit_dn5 hy]
    by_cases e : y = j
    · subst e
      rw [if_pos rfl, Nat.testBit_or, testBit_dn5 hy, Nat.testBit_two_pow]
      by_cases h2 : a = i
      · subst h2; simp [ha, h]
      · have : ¬ i = a := fun e => h2 e.symm
        simp [h2, this]
    · rw [if_neg e, testBit_dn5 hy]
      congr 4
      apply Bool.eq_iff_iff.2
      simp
      omega
  · rw [if_neg (by omega), dn5, dn5, if_neg hy, if_neg hy]
theorem dn5_no {n : Nat} {R : Rel} {a j : Nat} (ha : a < n) (hj : j < n) (h : R a j = false) (y : Nat) : dn5 n R a j y = dn5 n R a (j + 1) y := by
  by_cases hy : y < n
  · apply Nat.eq_of_testBit_eq
    intro i
    rw [testBit_dn5 hy, testBit_dn5 hy]
    by_cases e : y = j
    · subst e
      by_cases h2 : i = a
      · subst h2; simp [h]
      · simp [h2]
    · congr 4
      apply Bool.eq_iff_iff.2
      simp
      omega
  · rw [dn5, dn5, if_neg hy, if_neg hy]

def OrdRel (b n : Nat) (w1 : World) (up dn : Nat → Nat → Nat) (m : Nat) (i : Value) (wr : World) : Prop :=
  ∃ k : Nat, i = .int .i64 k ∧ k ≤ m ∧ LatMem wr b n (up k) (dn k) ∧ Below b w1 wr

set_option maxRecDepth 100000 in
set_option maxHeartbeats 4000000 in
theorem order_any (b n : Nat) (A : Option Addr) (ca : Nat) (ps : List (Int × Int)) (w1 w : World) (hb : w1.heap.size = b) (hbel : Below b w1 w) (hpr : PairsAt w1 A ca ps) (h1 : 1 ≤ n) (h64 : n ≤ 64)
    (hok : ∀ p ∈ ps, 0 ≤ p.1 ∧ p.1 < n ∧ 0 ≤ p.2 ∧ p.2 < n) (h : LatMem w b n (fun _ => 0) (fun _ => 0)) :
    Calls Tryz.prog 54 #[.pointer (some ⟨b, 0, none⟩), .slice A ps.length ca] w fun e w' => e = .returned (.tuple #[]) ∧
      LatMem w' b n (upF n (leqS n ps)) (upF n (flipR (leqS n ps))) ∧ Below b w1 w' := by
  have c0 := h.c0
  have HP := Lib.hid h
  have HBL := Lib.hid hbel
  have HPR := Lib.hid hpr
  have HOK := Lib.hid hok
  have hlen : ps.length ≤ 9223372036854775807 := by have := hpr.1; have := hpr.2.1; unfold maxLen at this; omega
  clear h hbel hpr hok
  go_enter Tryz.func54, Tryz.ntmps54
  go_wp2_with fail
  go_loopw [15] (fun i wr => OrdRel b n w1 up1 (fun _ _ => 0) n i wr) (fun i _ => n - (intOf i).toNat)
  case atStart => exact ⟨0, rfl, Nat.zero_le _, HP.out.eq (fun a => by simp [up1]) (fun _ => rfl), HBL.out⟩
  case round =>
    obtain ⟨k, rfl, hk, hm, hbw⟩ := hrel
    (try dsimp only at hm)
    have HM := Lib.hid hm
    have HB := Lib.hid hbw
    by_cases hkn : k < n
    · have hfz := hm.fz (1 + k)
      have hcu := hm.cu k (by omega)
      have c1 := fun W => one_any k (by omega) W
      have hk64 : (k : Int) < 64 := by omega
      have HL := Lib.hid (hm.setUp (a := k) (v := 2 ^ k) (by omega) (pow_lt64 (by omega)))
      generalize hpw : 2 ^ k = pw at *
      have HPW := Lib.hid hpw
      clear hm hbw hpw
      go_wp2_with fail
      refine wp_region_N (fun W => True) (fun j => decide (j < 6)) (by kernel_rfl) ?_
      have hS : True := trivial
      refine wpAnyN_take_at 0 18 (v := ?_) rfl rfl (by kernel_rfl) (by kernel_rfl) (by kernel_rfl) (by kernel_rfl) (by kernel_rfl) (fun _ _ _ h => h) (by rfl) ?_ hS ?_
      rotate_left
      · intro w hSw; (try dsimp only at hSw); go_simp; (try with_reducible rfl)
      simp only [Act.put, List.setIfInBounds_toArray, List.set_cons_zero, List.set_cons_succ]
      refine wpAnyN_take_at 1 19 (v := ?_) rfl rfl (by kernel_rfl) (by kernel_rfl) (by kernel_rfl) (by kernel_rfl) (by kernel_rfl) (fun _ _ _ h => h) (by rfl) ?_ hS ?_
      rotate_left
      · intro w hSw; (try dsimp only at hSw); go_simp; (try with_reducible rfl)
      simp only [Act.put, List.setIfInBounds_toArray, List.set_cons_zero, List.set_cons_succ]
      refine wpAnyN_take_at 2 20 (v := ?_) rfl rfl (by kernel_rfl) (by kernel_rfl) (by kernel_rfl) (by kernel_rfl) (by kernel_rfl) (fun _ _ _ h => h) (by rfl) ?_ hS ?_
      rotate_left
      · intro w hSw; (try dsimp only at hSw); go_simp; (try with_reducible rfl)
      simp only [Act.put, List.setIfInBounds_toArray, List.set_cons_zero, List.set_cons_succ]
      refine wpAnyN_take_at 4 22 (v := ?_) rfl rfl (by kernel_rfl) (by kernel_rfl) (by kernel_rfl) (by kernel_rfl) (by kernel_rfl) (fun _ _ _ h => h) (by rfl) ?_ hS ?_
      rotate_left
      · intro w hSw; (try dsimp only at hSw); go_simp; (try with_reducible rfl)
      simp only [Act.put, List.setIfInBounds_toArray, List.set_cons_zero, List.set_cons_succ]
      refine wpAnyN_take_at 5 23 (v := ?_) rfl rfl (by kernel_rfl) (by kernel_rfl) (by kernel_rfl) (by kernel_rfl) (by kernel_rfl) (fun _ _ _ h => h) (by rfl) ?_ hS ?_
      rotate_left
      · intro w hSw; (try dsimp only at hSw); go_simp; (try with_reducible rfl)
      simp only [Act.put, List.setIfInBounds_toArray, List.set_cons_zero, List.set_cons_succ]
      refine wpAnyN_one (i := 3) rfl (by kernel_rfl) (fun K hK => ?_)
      go_simp
      refine (c1 _).mono ?_
      rintro e w2 ⟨rfl, rfl⟩
      refine hK _ _ (fun _ => trivial) ?_
      clear hK hS
      refine wpAnyN_rest 6 [_, _] rfl (by kernel_rfl) (by kernel_rfl) ?_
      go_wp2
      go_roundw
      case rel =>
        refine ⟨k + 1, by go_num, by omega, ?_, (below_drewN' HB.out 1).setCell (Nat.le_refl _) _⟩
        exact (HL.out.eq (fun a => by rw [← HPW.out]; exact up1_step k a) (fun _ => rfl)).heap rfl
      case measure => simp [intOf]; omega
    · obtain rfl : k = n := by omega
      have HM := Lib.hid (hm.eq (up' := upF k (baseR (ps.take 0))) (fun a => up1_end k a) (fun _ => rfl))
      clear hm hbw
      go_wp2_with fail
      go_loopw [28] (fun i wr => OrdRel b k w1 (fun j => upF k (baseR (ps.take j))) (fun _ _ => 0) ps.length i wr) (fun i _ => ps.length - (intOf i).toNat)
      case atStart => exact ⟨0, rfl, Nat.zero_le _, HM.out, HB.out⟩
      case round =>
        obtain ⟨j, rfl, hj, hm, hbw⟩ := hrel
        (try dsimp only at hm)
        have HM := Lib.hid hm
        have HB := Lib.hid hbw
        by_cases hjn : j < ps.length
        · have hpr2 := HPR.out.below (by rw [hb]; exact hbw)
          obtain ⟨ba, off, rfl, hlt, hc, hc'⟩ := hpr2.at hjn
          obtain ⟨p, q, hpq, hpn, hqn⟩ : ∃ p q : Nat, ps[j] = ((p : Int), (q : Int)) ∧ p < k ∧ q < k := by
            obtain ⟨o1, o2, o3, o4⟩ := HOK.out _ (List.getElem_mem hjn)
            exact ⟨(ps[j]).1.toNat, (ps[j]).2.toNat, Prod.ext (by simp; omega) (by simp; omega), by omega, by omega⟩
          rw [hpq] at hc hc'
          simp only at hc hc'
          have hma := hm.below ((Below.refl _ wr).alloc (Nat.le_refl _) (.cells #[.int .i64 p, .int .i64 q] 52))
          have hbx := box_cell wr (.int .i64 p) (.int .i64 q) 52
          have HBA := Lib.hid (hbw.alloc (by have := hbw.size; omega) (.cells #[.int .i64 p, .int .i64 q] 52))
          have c1 := fun W => one_any q (by omega) W
          have hp64 : (p : Int) < 64 := by omega
          have hor := bits_or_u64_nat _ (2 ^ q) (hm.lu p) (pow_lt64 (show q < 64 by omega))
          have HL := Lib.hid ((hma.setUp (a := p) (by omega) (or_lt64 (hm.lu p) (pow_lt64 (show q < 64 by omega)))).eq (up' := upF k (baseR (ps.take (j + 1)))) (fun a => up2_step hjn hpq hpn hqn a) (fun _ => rfl))
          have hfz := hma.fz (1 + p)
          have hcu := hma.cu p (by omega)
          generalize 2 ^ q = pw at *
          clear hm hbw hpr2 hma hpq
          go_wp2_with fail
          refine wp_region_N (fun W => W.cell? ⟨wr.heap.size, 0, none⟩ = some (.int .i64 p) ∧ W.cell? ⟨wr.heap.size, 1, none⟩ = some (.int .i64 q) ∧ W.cell? ⟨b, 1 + p, none⟩ = some (.int .u64 (upF k (baseR (ps.take j)) p))) (fun j => decide (j < 13)) (by kernel_rfl) ?_
          have hS : (wr.alloc (.cells #[.int .i64 p, .int .i64 q] 52)).drew.cell? ⟨wr.heap.size, 0, none⟩ = some (.int .i64 p) ∧ (wr.alloc (.cells #[.int .i64 p, .int .i64 q] 52)).drew.cell? ⟨wr.heap.size, 1, none⟩ = some (.int .i64 q) ∧ (wr.alloc (.cells #[.int .i64 p, .int .i64 q] 52)).drew.cell? ⟨b, 1 + p, none⟩ = some (.int .u64 (upF k (baseR (ps.take j)) p)) := ⟨hbx.1, hbx.2, hcu⟩
          refine wpAnyN_take_at 0 32 (v := ?_) rfl rfl (by kernel_rfl) (by kernel_rfl) (by kernel_rfl) (by kernel_rfl) (by kernel_rfl) (fun _ _ _ h => h) (by rfl) ?_ hS ?_
          rotate_left
          · intro w hSw; (try dsimp only at hSw); obtain ⟨s1, s2, s3⟩ := hSw; go_simp; (try with_reducible rfl)
          simp only [Act.put, List.setIfInBounds_toArray, List.set_cons_zero, List.set_cons_succ]
          refine wpAnyN_take_at 1 33 (v := ?_) rfl rfl (by kernel_rfl) (by kernel_rfl) (by kernel_rfl) (by kernel_rfl) (by kernel_rfl) (fun _ _ _ h => h) (by rfl) ?_ hS ?_
          rotate_left
          · intro w hSw; (try dsimp only at hSw); obtain ⟨s1, s2, s3⟩ := hSw; go_simp; (try with_reducible rfl)
          simp only [Act.put, List.setIfInBounds_toArray, List.set_cons_zero, List.set_cons_succ]
          refine wpAnyN_take_at 2 34 (v := ?_) rfl rfl (by kernel_rfl) (by kernel_rfl) (by kernel_rfl) (by kernel_rfl) (by kernel_rfl) (fun _ _ _ h => h) (by rfl) ?_ hS ?_
          rotate_left
          · intro w hSw; (try dsimp only at hSw); obtain ⟨s1, s2, s3⟩ := hSw; go_simp; (try with_reducible rfl)
          simp only [Act.put, List.setIfInBounds_toArray, List.set_cons_zero, List.set_cons_succ]
          refine wpAnyN_take_at 3 35 (v := ?_) rfl rfl (by kernel_rfl) (by kernel_rfl) (by kernel_rfl) (by kernel_rfl) (by kernel_rfl) (fun _ _ _ h => h) (by rfl) ?_ hS ?_
          rotate_left
          · intro w hSw; (try dsimp only at hSw); obtain ⟨s1, s2, s3⟩ := hSw; go_simp; (try with_reducible rfl)
          simp only [Act.put, List.setIfInBounds_toArray, List.set_cons_zero, List.set_cons_succ]
          refine wpAnyN_take_at 4 36 (v := ?_) rfl rfl (by kernel_rfl) (by kernel_rfl) (by kernel_rfl) (by kernel_rfl) (by kernel_rfl) (fun _ _ _ h => h) (by rfl) ?_ hS ?_
          rotate_left
          · intro w hSw; (try dsimp only at hSw); obtain ⟨s1, s2, s3⟩ := hSw; go_simp; (try with_reducible rfl)
          simp only [Act.put, List.setIfInBounds_toArray, List.set_cons_zero, List.set_cons_succ]
          refine wpAnyN_take_at 5 37 (v := ?_) rfl rfl (by kernel_rfl) (by kernel_rfl) (by kernel_rfl) (by kernel_rfl) (by kernel_rfl) (fun _ _ _ h => h) (by rfl) ?_ hS ?_
          rotate_left
          · intro w hSw; (try dsimp only at hSw); obtain ⟨s1, s2, s3⟩ := hSw; go_simp; (try with_reducible rfl)
          simp only [Act.put, List.setIfInBounds_toArray, List.set_cons_zero, List.set_cons_succ]
          refine wpAnyN_take_at 6 38 (v := ?_) rfl rfl (by kernel_rfl) (by kernel_rfl) (by kernel_rfl) (by kernel_rfl) (by kernel_rfl) (fun _ _ _ h => h) (by rfl) ?_ hS ?_
          rotate_left
          · intro w hSw; (try dsimp only at hSw); obtain ⟨s1, s2, s3⟩ := hSw; go_simp; (try with_reducible rfl)
          simp only [Act.put, List.setIfInBounds_toArray, List.set_cons_zero, List.set_cons_succ]
          refine wpAnyN_take_at 7 39 (v := ?_) rfl rfl (by kernel_rfl) (by kernel_rfl) (by kernel_rfl) (by kernel_rfl) (by kernel_rfl) (fun _ _ _ h => h) (by rfl) ?_ hS ?_
          rotate_left
          · intro w hSw; (try dsimp only at hSw); obtain ⟨s1, s2, s3⟩ := hSw; go_simp; (try with_reducible rfl)
          simp only [Act.put, List.setIfInBounds_toArray, List.set_cons_zero, List.set_cons_succ]
          refine wpAnyN_take_at 8 40 (v := ?_) rfl rfl (by kernel_rfl) (by kernel_rfl) (by kernel_rfl) (by kernel_rfl) (by kernel_rfl) (fun _ _ _ h => h) (by rfl) ?_ hS ?_
          rotate_left
          · intro w hSw; (try dsimp only at hSw); obtain ⟨s1, s2, s3⟩ := hSw; go_simp; (try with_reducible rfl)
          simp only [Act.put, List.setIfInBounds_toArray, List.set_cons_zero, List.set_cons_succ]
          refine wpAnyN_take_at 11 43 (v := ?_) rfl rfl (by kernel_rfl) (by kernel_rfl) (by kernel_rfl) (by kernel_rfl) (by kernel_rfl) (fun _ _ _ h => h) (by rfl) ?_ hS ?_
          rotate_left
          · intro w hSw; (try dsimp only at hSw); obtain ⟨s1, s2, s3⟩ := hSw; go_simp; (try with_reducible rfl)
          simp only [Act.put, List.setIfInBounds_toArray, List.set_cons_zero, List.set_cons_succ]
          refine wpAnyN_take_at 12 44 (v := ?_) rfl rfl (by kernel_rfl) (by kernel_rfl) (by kernel_rfl) (by kernel_rfl) (by kernel_rfl) (fun _ _ _ h => h) (by rfl) ?_ hS ?_
          rotate_left
          · intro w hSw; (try dsimp only at hSw); obtain ⟨s1, s2, s3⟩ := hSw; go_simp; (try with_reducible rfl)
          simp only [Act.put, List.setIfInBounds_toArray, List.set_cons_zero, List.set_cons_succ]
          refine wpAnyN_one (i := 9) rfl (by kernel_rfl) (fun K hK => ?_)
          go_simp
          refine (c1 _).mono ?_
          rintro e w2 ⟨rfl, rfl⟩
          refine hK _ _ (fun _ => hS) ?_
          clear hK
          refine wpAnyN_take_at 10 42 (v := ?_) rfl rfl (by kernel_rfl) (by kernel_rfl) (by kernel_rfl) (by kernel_rfl) (by kernel_rfl) (fun _ _ _ h => h) (by rfl) ?_ hS ?_
          rotate_left
          · intro w hSw; (try dsimp only at hSw); obtain ⟨s1, s2, s3⟩ := hSw; go_simp; (try with_reducible rfl)
          simp only [Act.put, List.setIfInBounds_toArray, List.set_cons_zero, List.set_cons_succ]
          clear hS
          refine wpAnyN_rest 13 [_, _] rfl (by kernel_rfl) (by kernel_rfl) ?_
          go_wp2_with (simp only [hor])
          go_roundw
          case rel =>
            refine ⟨j + 1, by go_num, by omega, ?_, (below_drewN' HBA.out 1).setCell (Nat.le_refl _) _⟩
            exact HL.out.heap rfl
          case measure => simp [intOf]; omega
        · obtain rfl : j = ps.length := by omega
          have HM := Lib.hid (hm.eq (up' := upF k (warN (baseR ps) 0)) (fun a => by rw [List.take_length]; rfl) (fun _ => rfl))
          have c0 := hm.c0
          clear hm hbw
          go_wp2_with fail
          go_loopw [51] (fun i wr => OrdRel b k w1 (fun j => upF k (warN (baseR ps) j)) (fun _ _ => 0) k i wr) (fun i _ => k - (intOf i).toNat)
          case atStart => exact ⟨0, rfl, Nat.zero_le _, HM.out, HB.out⟩
          case round =>
            obtain ⟨by', rfl, hby, hm, hbw⟩ := hrel
            (try dsimp only at hm)
            have HM := Lib.hid hm
            have HB := Lib.hid hbw
            have c0 := hm.c0
            by_cases hbyn : by' < k
            · have HM3 := Lib.hid (hm.eq (up' := up3 k (baseR ps) by' 0) (fun a => up3_start k (baseR ps) by' a) (fun _ => rfl))
              clear hm hbw
              go_wp2_with fail
              go_loopw [58] (fun i wr => OrdRel b k w1 (fun j => up3 k (baseR ps) by' j) (fun _ _ => 0) k i wr) (fun i _ => k - (intOf i).toNat)
              case atStart => exact ⟨0, rfl, Nat.zero_le _, HM3.out, HB.out⟩
              case round =>
                obtain ⟨a, rfl, ha, hm, hbw⟩ := hrel
                (try dsimp only at hm)
                have HB := Lib.hid hbw
                by_cases han : a < k
                · have hcu := hm.cu a (by omega)
                  have hcy := hm.cu by' (by omega)
                  rw [up3_row] at hcy
                  rw [show up3 k (baseR ps) by' a a = upF k (warN (baseR ps) by') a from by unfold up3; rw [if_neg (by omega)]] at hcu
                  have hu1 := upF_lt h64 (warN (baseR ps) by') a
                  have hu2 := upF_lt h64 (warN (baseR ps) by') by'
                  have ch := fun W => holds_any (upF k (warN (baseR ps) by') a) by' hu1 (by omega) W
                  rw [testBit_upF han, decide_eq_true hbyn, Bool.true_and] at ch
                  have ha64 : (a : Int) < 64 := by omega
                  have hb64 : (by' : Int) < 64 := by omega
                  cases hh : warN (baseR ps) by' a by' with
                  | false =>
                    rw [hh] at ch
                    have HL := Lib.hid (hm.eq (up' := up3 k (baseR ps) by' (a + 1)) (fun x => up3_no han hbyn hh x) (fun _ => rfl))
                    clear hm hbw hh
                    go_wp2_with fail
                    refine (ch _).mono ?_
                    rintro e w2 ⟨rfl, rfl⟩
                    go_wp2
                    go_roundw
                    case rel => exact ⟨a + 1, by go_num, by omega, HL.out, HB.out⟩
                    case measure => simp [intOf]; omega
                  | true =>
                    rw [hh] at ch
                    have hor := bits_or_u64_nat _ _ hu1 hu2
                    have hfz := hm.fz (1 + a)
                    have HL := Lib.hid ((hm.setUp (a := a) (by omega) (or_lt64 hu1 hu2)).eq (up' := up3 k (baseR ps) by' (a + 1)) (fun x => up3_yes han hbyn hh x) (fun _ => rfl))
                    generalize upF k (warN (baseR ps) by') a = ua at *
                    generalize upF k (warN (baseR ps) by') by' = ub at *
                    clear hm hbw hh
                    go_wp2_with fail
                    refine (ch _).mono ?_
                    rintro e w2 ⟨rfl, rfl⟩
                    go_wp2_with fail
                    refine wp_region_N (fun W => W.cell? ⟨b, 1 + a, none⟩ = some (.int .u64 ua) ∧ W.cell? ⟨b, 1 + by', none⟩ = some (.int .u64 ub)) (fun j => decide (j < 15)) (by kernel_rfl) ?_
                    have hS : w2.drew.cell? ⟨b, 1 + a, none⟩ = some (.int .u64 ua) ∧ w2.drew.cell? ⟨b, 1 + by', none⟩ = some (.int .u64 ub) := ⟨hcu, hcy⟩
                    refine wpAnyN_take_at 0 69 (v := ?_) rfl rfl (by kernel_rfl) (by kernel_rfl) (by kernel_rfl) (by kernel_rfl) (by kernel_rfl) (fun _ _ _ h => h) (by rfl) ?_ hS ?_
                    rotate_left
                    · intro w hSw; (try dsimp only at hSw); obtain ⟨s1, s2⟩ := hSw; go_simp; (try with_reducible rfl)
                    simp only [Act.put, List.setIfInBounds_toArray, List.set_cons_zero, List.set_cons_succ]
                    refine wpAnyN_take_at 1 70 (v := ?_) rfl rfl (by kernel_rfl) (by kernel_rfl) (by kernel_rfl) (by kernel_rfl) (by kernel_rfl) (fun _ _ _ h => h) (by rfl) ?_ hS ?_
                    rotate_left
                    · intro w hSw; (try dsimp only at hSw); obtain ⟨s1, s2⟩ := hSw; go_simp; (try with_reducible rfl)
                    simp only [Act.put, List.setIfInBounds_toArray, List.set_cons_zero, List.set_cons_succ]
                    refine wpAnyN_take_at 2 71 (v := ?_) rfl rfl (by kernel_rfl) (by kernel_rfl) (by kernel_rfl) (by kernel_rfl) (by kernel_rfl) (fun _ _ _ h => h) (by rfl) ?_ hS ?_
                    rotate_left
                    · intro w hSw; (try dsimp only at hSw); obtain ⟨s1, s2⟩ := hSw; go_simp; (try with_reducible rfl)
                    simp only [Act.put, List.setIfInBounds_toArray, List.set_cons_zero, List.set_cons_succ]
                    refine wpAnyN_take_at 3 72 (v := ?_) rfl rfl (by kernel_rfl) (by kernel_rfl) (by kernel_rfl) (by kernel_rfl) (by kernel_rfl) (fun _ _ _ h => h) (by rfl) ?_ hS ?_
                    rotate_left
                    · intro w hSw; (try dsimp only at hSw); obtain ⟨s1, s2⟩ := hSw; go_simp; (try with_reducible rfl)
                    simp only [Act.put, List.setIfInBounds_toArray, List.set_cons_zero, List.set_cons_succ]
                    refine wpAnyN_take_at 4 73 (v := ?_) rfl rfl (by kernel_rfl) (by kernel_rfl) (by kernel_rfl) (by kernel_rfl) (by kernel_rfl) (fun _ _ _ h => h) (by rfl) ?_ hS ?_
                    rotate_left
                    · intro w hSw; (try dsimp only at hSw); obtain ⟨s1, s2⟩ := hSw; go_simp; (try with_reducible rfl)
                    simp only [Act.put, List.setIfInBounds_toArray, List.set_cons_zero, List.set_cons_succ]
                    refine wpAnyN_take_at 5 74 (v := ?_) rfl rfl (by kernel_rfl) (by kernel_rfl) (by kernel_rfl) (by kernel_rfl) (by kernel_rfl) (fun _ _ _ h => h) (by rfl) ?_ hS ?_
                    rotate_left
                    · intro w hSw; (try dsimp only at hSw); obtain ⟨s1, s2⟩ := hSw; go_simp; (try with_reducible rfl)
                    simp only [Act.put, List.setIfInBounds_toArray, List.set_cons_zero, List.set_cons_succ]
                    refine wpAnyN_take_at 6 75 (v := ?_) rfl rfl (by kernel_rfl) (by kernel_rfl) (by kernel_rfl) (by kernel_rfl) (by kernel_rfl) (fun _ _ _ h => h) (by rfl) ?_ hS ?_
                    rotate_left
                    · intro w hSw; (try dsimp only at hSw); obtain ⟨s1, s2⟩ := hSw; go_simp; (try with_reducible rfl)
                    simp only [Act.put, List.setIfInBounds_toArray, List.set_cons_zero, List.set_cons_succ]
                    refine wpAnyN_take_at 7 76 (v := ?_) rfl rfl (by kernel_rfl) (by kernel_rfl) (by kernel_rfl) (by kernel_rfl) (by kernel_rfl) (fun _ _ _ h => h) (by rfl) ?_ hS ?_
                    rotate_left
                    · intro w hSw; (try dsimp only at hSw); obtain ⟨s1, s2⟩ := hSw; go_simp; (try with_reducible rfl)
                    simp only [Act.put, List.setIfInBounds_toArray, List.set_cons_zero, List.set_cons_succ]
                    refine wpAnyN_take_at 8 77 (v := ?_) rfl rfl (by kernel_rfl) (by kernel_rfl) (by kernel_rfl) (by kernel_rfl) (by kernel_rfl) (fun _ _ _ h => h) (by rfl) ?_ hS ?_
                    rotate_left
                    · intro w hSw; (try dsimp only at hSw); obtain ⟨s1, s2⟩ := hSw; go_simp; (try with_reducible rfl)
                    simp only [Act.put, List.setIfInBounds_toArray, List.set_cons_zero, List.set_cons_succ]
                    refine wpAnyN_take_at 9 78 (v := ?_) rfl rfl (by kernel_rfl) (by kernel_rfl) (by kernel_rfl) (by kernel_rfl) (by kernel_rfl) (fun _ _ _ h => h) (by rfl) ?_ hS ?_
                    rotate_left
                    · intro w hSw; (try dsimp only at hSw); obtain ⟨s1, s2⟩ := hSw; go_simp; (try with_reducible rfl)
                    simp only [Act.put, List.setIfInBounds_toArray, List.set_cons_zero, List.set_cons_succ]
                    refine wpAnyN_take_at 10 79 (v := ?_) rfl rfl (by kernel_rfl) (by kernel_rfl) (by kernel_rfl) (by kernel_rfl) (by kernel_rfl) (fun _ _ _ h => h) (by rfl) ?_ hS ?_
                    rotate_left
                    · intro w hSw; (try dsimp only at hSw); obtain ⟨s1, s2⟩ := hSw; go_simp; (try with_reducible rfl)
                    simp only [Act.put, List.setIfInBounds_toArray, List.set_cons_zero, List.set_cons_succ]
                    refine wpAnyN_take_at 11 80 (v := ?_) rfl rfl (by kernel_rfl) (by kernel_rfl) (by kernel_rfl) (by kernel_rfl) (by kernel_rfl) (fun _ _ _ h => h) (by rfl) ?_ hS ?_
                    rotate_left
                    · intro w hSw; (try dsimp only at hSw); obtain ⟨s1, s2⟩ := hSw; go_simp; (try with_reducible rfl)
                    simp only [Act.put, List.setIfInBounds_toArray, List.set_cons_zero, List.set_cons_succ]
                    refine wpAnyN_take_at 12 81 (v := ?_) rfl rfl (by kernel_rfl) (by kernel_rfl) (by kernel_rfl) (by kernel_rfl) (by kernel_rfl) (fun _ _ _ h => h) (by rfl) ?_ hS ?_
                    rotate_left
                    · intro w hSw; (try dsimp only at hSw); obtain ⟨s1, s2⟩ := hSw; go_simp; (try with_reducible rfl)
                    simp only [Act.put, List.setIfInBounds_toArray, List.set_cons_zero, List.set_cons_succ]
                    refine wpAnyN_take_at 13 82 (v := ?_) rfl rfl (by kernel_rfl) (by kernel_rfl) (by kernel_rfl) (by kernel_rfl) (by kernel_rfl) (fun _ _ _ h => h) (by rfl) ?_ hS ?_
                    rotate_left
                    · intro w hSw; (try dsimp only at hSw); obtain ⟨s1, s2⟩ := hSw; go_simp; (try with_reducible rfl)
                    simp only [Act.put, List.setIfInBounds_toArray, List.set_cons_zero, List.set_cons_succ]
                    refine wpAnyN_take_at 14 83 (v := ?_) rfl rfl (by kernel_rfl) (by kernel_rfl) (by kernel_rfl) (by kernel_rfl) (by kernel_rfl) (fun _ _ _ h => h) (by rfl) ?_ hS ?_
                    rotate_left
                    · intro w hSw; (try dsimp only at hSw); obtain ⟨s1, s2⟩ := hSw; go_simp; (try with_reducible rfl)
                    simp only [Act.put, List.setIfInBounds_toArray, List.set_cons_zero, List.set_cons_succ]
                    clear hS
                    refine wpAnyN_rest 15 [_, _] rfl (by kernel_rfl) (by kernel_rfl) ?_
                    go_wp2_with (simp only [hor])
                    go_roundw
                    case rel =>
                      refine ⟨a + 1, by go_num, by omega, ?_, (below_drewN' HB.out 1).setCell (Nat.le_refl _) _⟩
                      exact HL.out.heap rfl
                    case measure => simp [intOf]; omega
                · obtain rfl : a = k := by omega
                  have HL := Lib.hid (hm.eq (up' := upF a (warN (baseR ps) (by' + 1))) (fun x => up3_end a (baseR ps) by' x) (fun _ => rfl))
                  clear hm hbw
                  go_wp2
                  go_roundw
                  case rel => exact ⟨by' + 1, by go_num, by omega, HL.out, HB.out⟩
                  case measure => simp [intOf]; omega
            · obtain rfl : by' = k := by omega
              have HM := Lib.hid (hm.eq (dn' := dn5 by' (leqS by' ps) 0 0) (fun _ => rfl) (fun a => dn5_start by' (leqS by' ps) a))
              clear hm hbw
              go_wp2_with fail
              go_loopw [91] (fun i wr => OrdRel b by' w1 (fun _ => upF by' (leqS by' ps)) (fun j => dn5 by' (leqS by' ps) j 0) by' i wr) (fun i _ => by' - (intOf i).toNat)
              case atStart => exact ⟨0, rfl, Nat.zero_le _, HM.out, HB.out⟩
              case round =>
                obtain ⟨a, rfl, ha, hm, hbw⟩ := hrel
                (try dsimp only at hm)
                have HM := Lib.hid hm
                have HB := Lib.hid hbw
                have c0 := hm.c0
                by_cases han : a < by'
                · clear hm hbw
                  go_wp2_with fail
                  go_loopw [98] (fun i wr => OrdRel b by' w1 (fun _ => upF by' (leqS by' ps)) (fun j => dn5 by' (leqS by' ps) a j) by' i wr) (fun i _ => by' - (intOf i).toNat)
                  case atStart => exact ⟨0, rfl, Nat.zero_le _, HM.out, HB.out⟩
                  case round =>
                    obtain ⟨j, rfl, hj, hm, hbw⟩ := hrel
                    (try dsimp only at hm)
                    have HB := Lib.hid hbw
                    by_cases hjn : j < by'
                    · have hcu := hm.cu a (by omega)
                      have hcd := hm.cd j (by omega)
                      have hu1 := upF_lt h64 (leqS by' ps) a
                      have hu2 := hm.ld j
                      have ch := fun W => holds_any (upF by' (leqS by' ps) a) j hu1 (by omega) W
                      rw [testBit_upF han, decide_eq_true hjn, Bool.true_and] at ch
                      have ha64 : (a : Int) < 64 := by omega
                      have hb64 : (j : Int) < 64 := by omega
                      cases hh : leqS by' ps a j with
                      | false =>
                        rw [hh] at ch
                        have HL := Lib.hid (hm.eq (dn' := dn5 by' (leqS by' ps) a (j + 1)) (fun _ => rfl) (fun x => dn5_no han hjn hh x))
                        clear hm hbw hh
                        go_wp2_with fail
                        refine (ch _).mono ?_
                        rintro e w2 ⟨rfl, rfl⟩
                        go_wp2
                        go_roundw
                        case rel => exact ⟨j + 1, by go_num, by omega, HL.out, HB.out⟩
                        case measure => simp [intOf]; omega
                      | true =>
                        rw [hh] at ch
                        have c1 := fun W => one_any a (by omega) W
                        have hor := bits_or_u64_nat _ (2 ^ a) hu2 (pow_lt64 (show a < 64 by omega))
                        have hfz := hm.fz (65 + j)
                        have HL := Lib.hid ((hm.setDn (a := j) (by omega) (or_lt64 hu2 (pow_lt64 (show a < 64 by omega)))).eq (dn' := dn5 by' (leqS by' ps) a (j + 1)) (fun _ => rfl) (fun x => dn5_yes han hjn hh x))
                        generalize upF by' (leqS by' ps) a = ua at *
                        generalize dn5 by' (leqS by' ps) a j j = ub at *
                        generalize 2 ^ a = pw at *
                        clear hm hbw hh
                        go_wp2_with fail
                        refine (ch _).mono ?_
                        rintro e w2 ⟨rfl, rfl⟩
                        go_wp2_with fail
                        refine wp_region_N (fun W => W.cell? ⟨b, 65 + j, none⟩ = some (.int .u64 ub)) (fun j => decide (j < 11)) (by kernel_rfl) ?_
                        have hS : w2.drew.cell? ⟨b, 65 + j, none⟩ = some (.int .u64 ub) := hcd
                        refine wpAnyN_take_at 0 109 (v := ?_) rfl rfl (by kernel_rfl) (by kernel_rfl) (by kernel_rfl) (by kernel_rfl) (by kernel_rfl) (fun _ _ _ h => h) (by rfl) ?_ hS ?_
                        rotate_left
                        · intro w hSw; (try dsimp only at hSw); go_simp; (try with_reducible rfl)
                        simp only [Act.put, List.setIfInBounds_toArray, List.set_cons_zero, List.set_cons_succ]
                        refine wpAnyN_take_at 1 110 (v := ?_) rfl rfl (by kernel_rfl) (by kernel_rfl) (by kernel_rfl) (by kernel_rfl) (by kernel_rfl) (fun _ _ _ h => h) (by rfl) ?_ hS ?_
                        rotate_left
                        · intro w hSw; (try dsimp only at hSw); go_simp; (try with_reducible rfl)
                        simp only [Act.put, List.setIfInBounds_toArray, List.set_cons_zero, List.set_cons_succ]
                        refine wpAnyN_take_at 2 111 (v := ?_) rfl rfl (by kernel_rfl) (by kernel_rfl) (by kernel_rfl) (by kernel_rfl) (by kernel_rfl) (fun _ _ _ h => h) (by rfl) ?_ hS ?_
                        rotate_left
                        · intro w hSw; (try dsimp only at hSw); go_simp; (try with_reducible rfl)
                        simp only [Act.put, List.setIfInBounds_toArray, List.set_cons_zero, List.set_cons_succ]
                        refine wpAnyN_take_at 3 112 (v := ?_) rfl rfl (by kernel_rfl) (by kernel_rfl) (by kernel_rfl) (by kernel_rfl) (by kernel_rfl) (fun _ _ _ h => h) (by rfl) ?_ hS ?_
                        rotate_left
                        · intro w hSw; (try dsimp only at hSw); go_simp; (try with_reducible rfl)
                        simp only [Act.put, List.setIfInBounds_toArray, List.set_cons_zero, List.set_cons_succ]
                        refine wpAnyN_take_at 4 113 (v := ?_) rfl rfl (by kernel_rfl) (by kernel_rfl) (by kernel_rfl) (by kernel_rfl) (by kernel_rfl) (fun _ _ _ h => h) (by rfl) ?_ hS ?_
                        rotate_left
                        · intro w hSw; (try dsimp only at hSw); go_simp; (try with_reducible rfl)
                        simp only [Act.put, List.setIfInBounds_toArray, List.set_cons_zero, List.set_cons_succ]
                        refine wpAnyN_take_at 5 114 (v := ?_) rfl rfl (by kernel_rfl) (by kernel_rfl) (by kernel_rfl) (by kernel_rfl) (by kernel_rfl) (fun _ _ _ h => h) (by rfl) ?_ hS ?_
                        rotate_left
                        · intro w hSw; (try dsimp only at hSw); go_simp; (try with_reducible rfl)
                        simp only [Act.put, List.setIfInBounds_toArray, List.set_cons_zero, List.set_cons_succ]
                        refine wpAnyN_take_at 6 115 (v := ?_) rfl rfl (by kernel_rfl) (by kernel_rfl) (by kernel_rfl) (by kernel_rfl) (by kernel_rfl) (fun _ _ _ h => h) (by rfl) ?_ hS ?_
                        rotate_left
                        · intro w hSw; (try dsimp only at hSw); go_simp; (try with_reducible rfl)
                        simp only [Act.put, List.setIfInBounds_toArray, List.set_cons_zero, List.set_cons_succ]
                        refine wpAnyN_take_at 9 118 (v := ?_) rfl rfl (by kernel_rfl) (by kernel_rfl) (by kernel_rfl) (by kernel_rfl) (by kernel_rfl) (fun _ _ _ h => h) (by rfl) ?_ hS ?_
                        rotate_left
                        · intro w hSw; (try dsimp only at hSw); go_simp; (try with_reducible rfl)
                        simp only [Act.put, List.setIfInBounds_toArray, List.set_cons_zero, List.set_cons_succ]
                        refine wpAnyN_take_at 10 119 (v := ?_) rfl rfl (by kernel_rfl) (by kernel_rfl) (by kernel_rfl) (by kernel_rfl) (by kernel_rfl) (fun _ _ _ h => h) (by rfl) ?_ hS ?_
                        rotate_left
                        · intro w hSw; (try dsimp only at hSw); go_simp; (try with_reducible rfl)
                        simp only [Act.put, List.setIfInBounds_toArray, List.set_cons_zero, List.set_cons_succ]
                        refine wpAnyN_one (i := 7) rfl (by kernel_rfl) (fun K hK => ?_)
                        go_simp
                        refine (c1 _).mono ?_
                        rintro e w3 ⟨rfl, rfl⟩
                        refine hK _ _ (fun _ => hS) ?_
                        clear hK
                        refine wpAnyN_take_at 8 117 (v := ?_) rfl rfl (by kernel_rfl) (by kernel_rfl) (by kernel_rfl) (by kernel_rfl) (by kernel_rfl) (fun _ _ _ h => h) (by rfl) ?_ hS ?_
                        rotate_left
                        · intro w hSw; (try dsimp only at hSw); go_simp; (try with_reducible rfl)
                        simp only [Act.put, List.setIfInBounds_toArray, List.set_cons_zero, List.set_cons_succ]
                        clear hS
                        refine wpAnyN_rest 11 [_, _] rfl (by kernel_rfl) (by kernel_rfl) ?_
                        go_wp2_with (simp only [hor])
                        go_roundw
                        case rel =>
                          refine ⟨j + 1, by go_num, by omega, ?_, (below_drewN' HB.out 1).setCell (Nat.le_refl _) _⟩
                          exact HL.out.heap rfl
                        case measure => simp [intOf]; omega
                    · obtain rfl : j = by' := by omega
                      have HL := Lib.hid (hm.eq (dn' := dn5 j (leqS j ps) (a + 1) 0) (fun _ => rfl) (fun x => dn5_next j (leqS j ps) a x))
                      clear hm hbw
                      go_wp2
                      go_roundw
                      case rel => exact ⟨a + 1, by go_num, by omega, HL.out, HB.out⟩
                      case measure => simp [intOf]; omega
                · obtain rfl : a = by' := by omega
                  have HL := Lib.hid (hm.eq (dn' := upF a (flipR (leqS a ps))) (fun _ => rfl) (fun x => dn5_end a (leqS a ps) x))
                  clear hm hbw
                  go_wp2
                  go_end0
                  exact ⟨rfl, HL.out, HB.out⟩

end Go.Proofs.YtkcmhdkhdjmjeaaGreatDoor

namespace Go.Proofs.YtkcmhdkhdjmjeaaGreatDoor
open Go.RowKit
set_option linter.unusedVariables false
set_option linter.unusedSimpArgs false

theorem only_self {n : Nat} {R : Rel} (hr : ∀ a, a < n → R a a = true) {a : Nat} (ha : a < n) :
    upF n R a &&& upF n (flipR R) a = 2 ^ a ↔ ∀ y, y < n → R a y = true → R y a = true → y = a := by
  constructor
  · intro e y hy h1 h2
    have h3 := congrArg (fun z => z.testBit y) e
    simp only [Nat.testBit_and, testBit_upF ha, decide_eq_true hy, Bool.true_and, flipR, h1, h2, Nat.testBit_two_pow] at h3
    have : a = y := by simpa using h3
    exact this.symm
  · intro h
    apply Nat.eq_of_testBit_eq
    intro y
    rw [Nat.testBit_and, testBit_upF ha, testBit_upF ha, Nat.testBit_two_pow, flipR]
    by_cases e : a = y
    · subst e
      simp [ha, hr a ha]
    · rw [decide_eq_false e]
      by_cases hy : y < n
      · rw [decide_eq_true hy, Bool.true_and, Bool.true_and]
        cases h1 : R a y with
        | false => rfl
        | true =>
          cases h2 : R y a with
          | false => rfl
          | true => exact absurd (h y hy h1 h2).symm e
      · rw [decide_eq_false hy]; rfl

def SndRel (n : Nat) (R : Rel) (w : World) (i : Value) (wr : World) : Prop := ∃ k m : Nat, i = .int .i64 k ∧ k ≤ n ∧ SoundTo n R k ∧ wr = w.drewN m
def SndRel2 (n : Nat) (R : Rel) (k : Nat) (w : World) (i : Value) (wr : World) : Prop := ∃ j m : Nat, i = .int .i64 j ∧ j ≤ k ∧ (∀ b, b < j → 0 ≤ joinR n R k b ∧ 0 ≤ meetR n R k b) ∧ wr = w.drewN m
theorem drewN_add (w : World) (a b : Nat) : ∃ c, (w.drewN a).drewN b = w.drewN c := ⟨a + b, by rw [World.drewN_drewN]⟩

set_option maxRecDepth 100000 in
set_option maxHeartbeats 2000000 in
theorem sound_any {b n : Nat} {R : Rel} (w : World) (hT : TabIs w) (h : LatIs w b n R) :
    Calls Tryz.prog 55 #[.pointer (some ⟨b, 0, none⟩)] w fun e w' => e = .returned (.bool (decide (Sound n R))) ∧ ∃ m, w' = w.drewN m := by
  have c0 := h.mem.c0
  have hm := h.most
  have HH := Lib.hid h
  have HT := Lib.hid hT
  clear h hT
  go_enter Tryz.func55, Tryz.ntmps55
  go_wp2_with fail
  go_loopw [9] (fun i wr => SndRel n R w i wr) (fun i _ => n - (intOf i).toNat)
  case atStart => exact ⟨0, 0, rfl, Nat.zero_le _, fun a ha => absurd ha (Nat.not_lt_zero _), rfl⟩
  case round =>
    obtain ⟨k, m, rfl, hk, hs, rfl⟩ := hrel
    have HS := Lib.hid hs
    clear hs
    by_cases hkn : k < n
    · have hcu := HH.out.mem.cu k (by omega)
      have hcd := HH.out.mem.cd k (by omega)
      have hu := upF_lt hm R k
      have hd := upF_lt hm (flipR R) k
      have c1 := fun W => one_any k (by omega) W
      have hand := bits_and_u64_nat _ _ hu hd
      have hk64 : (k : Int) < 64 := by omega
      have HO := Lib.hid (only_self HH.out.refl hkn)
      by_cases ho : upF n R k &&& upF n (flipR R) k = 2 ^ k
      · have HY := Lib.hid (HO.out.1 ho)
        have hne : (bits BinOp.and IntKind.u64 (upF n R k : Int) (upF n (flipR R) k : Int) != ((2 ^ k : Nat) : Int)) = false := by
          rw [hand, ho]; simp
        generalize upF n R k = u1 at *
        generalize upF n (flipR R) k = u2 at *
        generalize 2 ^ k = pw at *
        clear hand ho
        go_wp2_with fail
        go_quiet ((go_at_call 89; exact (c1 _).mono (fun _ _ h => ⟨h.1, _, h.2⟩)))
        rename_i nq
        go_wp2_with fail
        go_loopw [29] (fun i wr => SndRel2 n R k w i wr) (fun i _ => k - (intOf i).toNat)
        case atStart =>
          obtain ⟨c, hc⟩ := drewN_add w m nq
          exact ⟨0, c, rfl, Nat.zero_le _, fun a ha => absurd ha (Nat.not_lt_zero _), by first | exact hc | rfl | (rw [← hc]; rfl)⟩
        case round =>
          obtain ⟨j, m2, rfl, hj, hs2, rfl⟩ := hrel
          have HS2 := Lib.hid hs2
          clear hs2
          by_cases hjk : j < k
          · have cj := fun q => join_in k j (by omega) (by omega) (w.drewN q) (HT.out.heap rfl) (HH.out.heap rfl)
            have cm := fun q => meet_in k j (by omega) (by omega) (w.drewN q) (HT.out.heap rfl) (HH.out.heap rfl)
            have HNS := Lib.hid (show ¬ (0 ≤ joinR n R k j ∧ 0 ≤ meetR n R k j) → decide (Sound n R) = false from fun h0 => decide_eq_false fun hs => h0 ⟨hs.2.1 k hkn j (by omega), hs.2.2 k hkn j (by omega)⟩)
            have HRR := Lib.hid (show 0 ≤ joinR n R k j → 0 ≤ meetR n R k j → ∀ b, b < j + 1 → 0 ≤ joinR n R k b ∧ 0 ≤ meetR n R k b from fun h1 h2 b hb => by
              by_cases e : b = j
              · subst e; exact ⟨h1, h2⟩
              · exact HS2.out b (by omega))
            generalize joinR n R k j = zj at *
            generalize meetR n R k j = zm at *
            by_cases hj0 : 0 ≤ zj
            · by_cases hm0 : 0 ≤ zm
              · have HJ := Lib.hid (HRR.out hj0 hm0)
                have fj : decide (zj < 0) = false := by simp; omega
                have fm : decide (zm < 0) = false := by simp; omega
                clear hj0 hm0
                go_wp2_with fail
                refine (cj _).mono ?_
                rintro e w3 ⟨rfl, m3, rfl⟩
                obtain ⟨m4, e4⟩ := drewN_add w m2 m3
                rw [e4]
                go_wp2_with fail
                refine (cm _).mono ?_
                rintro e w3 ⟨rfl, m5, rfl⟩
                obtain ⟨m6, e6⟩ := drewN_add w m4 m5
                rw [e6]
                go_wp2
                go_roundw
                case rel => exact ⟨j + 1, m6, by go_num, by omega, HJ.out, rfl⟩
                case measure => simp [intOf]; omega
              · have HF := Lib.hid (HNS.out fun h => hm0 h.2)
                have fj : decide (zj < 0) = false := by simp; omega
                have fm : decide (zm < 0) = true := by simp; omega
                clear hj0 hm0
                go_wp2_with fail
                refine (cj _).mono ?_
                rintro e w3 ⟨rfl, m3, rfl⟩
                obtain ⟨m4, e4⟩ := drewN_add w m2 m3
                rw [e4]
                go_wp2_with fail
                refine (cm _).mono ?_
                rintro e w3 ⟨rfl, m5, rfl⟩
                obtain ⟨m6, e6⟩ := drewN_add w m4 m5
                rw [e6]
                go_wp2
                go_ret
                exact ⟨ret_bool HF.out.symm, m6, rfl⟩
            · have HF := Lib.hid (HNS.out fun h => hj0 h.1)
              have fj : decide (zj < 0) = true := by simp; omega
              clear hj0
              go_wp2_with fail
              refine (cj _).mono ?_
              rintro e w3 ⟨rfl, m3, rfl⟩
              obtain ⟨m4, e4⟩ := drewN_add w m2 m3
              rw [e4]
              go_wp2
              go_ret
              exact ⟨ret_bool HF.out.symm, m4, rfl⟩
          · obtain rfl : j = k := by omega
            have HN := Lib.hid (show SoundTo n R (j + 1) from fun a ha => by
              by_cases e : a = j
              · subst e; exact ⟨HY.out, HS2.out⟩
              · exact HS.out a (by omega))
            go_wp2
            go_roundw
            case rel => exact ⟨j + 1, m2, by go_num, by omega, HN.out, rfl⟩
            case measure => simp [intOf]; omega
      · have HF := Lib.hid (show decide (Sound n R) = false from decide_eq_false fun hs => ho (HO.out.2 fun y hy h1 h2 => (hs.1 k hkn y hy h1 h2).symm))
        have hne : (bits BinOp.and IntKind.u64 (upF n R k : Int) (upF n (flipR R) k : Int) != ((2 ^ k : Nat) : Int)) = true := by
          rw [hand, bne_iff_ne]; intro e; exact ho (by omega)
        generalize upF n R k = u1 at *
        generalize upF n (flipR R) k = u2 at *
        generalize 2 ^ k = pw at *
        clear hand ho
        go_wp2_with fail
        go_quiet ((go_at_call 89; exact (c1 _).mono (fun _ _ h => ⟨h.1, _, h.2⟩)))
        go_wp2
        go_ret
        exact ⟨ret_bool HF.out.symm, drewN_add _ _ _⟩
    · obtain rfl : k = n := by omega
      have HF := Lib.hid (show decide (Sound k R) = true from decide_eq_true (sound_of_to HH.out.refl HS.out))
      go_wp2
      go_ret
      exact ⟨ret_bool HF.out.symm, m, rfl⟩

end Go.Proofs.YtkcmhdkhdjmjeaaGreatDoor

namespace Go.Proofs.YtkcmhdkhdjmjeaaGreatDoor
open Go.RowKit
set_option linter.unusedVariables false
set_option linter.unusedSimpArgs false

def zeroCells : Array Value := ⟨.int .i64 0 :: List.replicate 128 (.int .u64 0)⟩
def latCells (m : Int) : Array Value := ⟨.int .i64 m :: List.replicate 128 (.int .u64 0)⟩
theorem zeroLat (w : World) : (zeroValue 101).run Tryz.prog w = .ok (.agg zeroCells) w := by kernel_rfl
theorem zeroCells_ne : (zeroCells = #[]) = False := by
  apply eq_false
  intro e
  have := congrArg Array.size e
  simp [zeroCells] at this
theorem zeroCells_set (m : Int) : zeroCells.setIfInBounds 0 (.int .i64 m) = latCells m := by simp [zeroCells, latCells]
theorem latCells_get (m : Int) (a : Nat) (ha : a < 128) : (latCells m)[1 + a]? = some (.int .u64 0) := by
  have : (latCells m)[1 + a]? = (List.replicate 128 (Value.int .u64 0))[a]? := by
    unfold latCells
    rw [Nat.add_comm]
    simp
  rw [this, List.getElem?_replicate, if_pos ha]
theorem latCells_mem (w : World) (n : Nat) : LatMem (w.alloc (.cells (latCells n) 101)) w.heap.size n (fun _ => 0) (fun _ => 0) := by
  have hc : ∀ i, (w.alloc (.cells (latCells n) 101)).cell? ⟨w.heap.size, i, none⟩ = (latCells n)[i]? := fun i => cell_of_row _ _ _ (latCells n) 101 (0, 0) (heap_alloc_new w _)
  refine ⟨?_, fun a ha => ?_, fun a ha => ?_, fun i => ?_, fun _ => by decide, fun _ => by decide⟩
  · rw [hc]; simp [latCells]
  · rw [hc, latCells_get n a (by omega)]; rfl
  · rw [hc, show 65 + a = 1 + (64 + a) from by omega, latCells_get n (64 + a) (by omega)]; rfl
  · simp only [World.frozen?]
    rw [heap_alloc_new]
    simp

def NewEnd (w : World) (n : Int) (ps : List (Int × Int)) (e : Ending) (w' : World) : Prop :=
  Below w.heap.size w w' ∧ ∃ p : Value, e = .returned (.tuple #[p, .int .i64 (errS n ps)]) ∧
    ((errS n ps = 0 ∧ ∃ b, p = .pointer (some ⟨b, 0, none⟩) ∧ w.heap.size ≤ b ∧ LatIs w' b n.toNat (leqS n.toNat ps)) ∨ (errS n ps ≠ 0 ∧ p = .pointer none))
def NewRel (n : Nat) (ps : List (Int × Int)) (w : World) (i : Value) (wr : World) : Prop :=
  ∃ k : Nat, i = .int .i64 k ∧ k ≤ ps.length ∧ (∀ p ∈ ps.take k, okPair n p = true) ∧ LatMem wr w.heap.size n (fun _ => 0) (fun _ => 0) ∧ Below w.heap.size w wr

set_option maxRecDepth 100000 in
set_option maxHeartbeats 2000000 in
theorem new_any (A : Option Addr) (ca : Nat) (n : Int) (ps : List (Int × Int)) (w : World) (hT : TabIs w) (hpr : PairsAt w A ca ps) :
    Calls Tryz.prog 19 #[.int .i64 n, .slice A ps.length ca] w (NewEnd w n ps) := by
  have hlen : ps.length ≤ 9223372036854775807 := by have := hpr.1; have := hpr.2.1; unfold maxLen at this; omega
  by_cases hlo : n < 1
  · have HF := Lib.hid (show errS n ps = 6 from if_pos (Or.inl hlo))
    have f1 : decide (n < 1) = true := by simpa using hlo
    clear hpr hT
    go_enter Tryz.func19, Tryz.ntmps19
    go_wp2
    go_ret2
    refine ⟨Below.refl _ _, _, ?_, Or.inr ⟨by rw [HF.out]; decide, rfl⟩⟩
    rw [HF.out]; rfl
  · by_cases hhi : 64 < n
    · have HF := Lib.hid (show errS n ps = 6 from if_pos (Or.inr hhi))
      have f1 : decide (n < 1) = false := by simpa using hlo
      have f2 : decide (n > 64) = true := by simpa using hhi
      clear hpr hT
      go_enter Tryz.func19, Tryz.ntmps19
      go_wp2
      go_ret2
      refine ⟨Below.refl _ _, _, ?_, Or.inr ⟨by rw [HF.out]; decide, rfl⟩⟩
      rw [HF.out]; rfl
    · obtain ⟨m, rfl⟩ : ∃ m : Nat, n = m := ⟨n.toNat, by omega⟩
      have f1 : decide ((m : Int) < 1) = false := by simpa using hlo
      have f2 : decide ((m : Int) > 64) = false := by simpa using hhi
      have HPR := Lib.hid hpr
      have HT := Lib.hid hT
      clear hpr hT
      go_enter Tryz.func19, Tryz.ntmps19
      go_wp2_with (simp only [zeroLat, zeroCells_ne, zeroCells_set])
      have hsame : ∀ (Z : Array Value), Z = zeroCells → Z.setIfInBounds 0 (.int .i64 m) = latCells m := by rintro _ rfl; exact zeroCells_set m
      try rw [hsame]
      try (rotate_left; kernel_rfl)
      clear hsame
      have hb0 : Below w.heap.size w (w.alloc (.cells (latCells m) 101)) := (Below.refl _ w).alloc (Nat.le_refl _) _
      have hm0 := latCells_mem w m
      have HB0 := Lib.hid hb0
      have HM0 := Lib.hid hm0
      generalize w.alloc (.cells (latCells m) 101) = w0 at *
      clear hb0 hm0
      go_loopw [20] (fun i wr => NewRel m ps w i wr) (fun i _ => ps.length - (intOf i).toNat)
      case atStart => exact ⟨0, rfl, Nat.zero_le _, fun p hp => by simp at hp, HM0.out, HB0.out⟩
      case round =>
        obtain ⟨k, rfl, hk, hall, hm, hbw⟩ := hrel
        have HA := Lib.hid hall
        have HB := Lib.hid hbw
        by_cases hkn : k < ps.length
        · have hpr2 := HPR.out.below hbw
          obtain ⟨ba, off, rfl, hlt, hc, hc'⟩ := hpr2.at hkn
          have HTK := Lib.hid (List.take_succ_eq_append_getElem hkn)
          have HME := Lib.hid (List.getElem_mem hkn)
          generalize ps[k] = pq at *
          obtain ⟨p, q⟩ := pq
          simp only at hc hc'
          have hma := hm.below ((Below.refl _ wr).alloc (Nat.le_refl _) (.cells #[.int .i64 p, .int .i64 q] 52))
          have HMA := Lib.hid hma
          have HBA := Lib.hid (hbw.alloc hbw.size (.cells #[.int .i64 p, .int .i64 q] 52))
          have ch := has_any p q _ hma
          clear hm hbw hpr2 hma hall
          cases hok : hasS m p q with
          | true =>
            rw [hok] at ch
            have HO := Lib.hid (show okPair m (p, q) = true from hok)
            clear hok
            go_wp2_with fail
            refine ch.mono ?_
            rintro e w2 ⟨rfl, rfl⟩
            go_wp2
            go_roundw
            case rel =>
              refine ⟨k + 1, by go_num, by omega, fun x hx => ?_, HMA.out, HBA.out⟩
              rw [HTK.out, List.mem_append, List.mem_singleton] at hx
              rcases hx with hx | rfl
              · exact HA.out x hx
              · exact HO.out
            case measure => simp [intOf]; omega
          | false =>
            rw [hok] at ch
            have HF := Lib.hid (show errS m ps = 6 from by
              unfold errS
              rw [if_neg (by omega), if_pos]
              rw [List.all_eq_false]
              exact ⟨_, HME.out, by show ¬ (hasS m p q = true); rw [hok]; decide⟩)
            clear hok
            go_wp2_with fail
            refine ch.mono ?_
            rintro e w2 ⟨rfl, rfl⟩
            go_wp2
            go_ret2
            refine ⟨HBA.out, _, ?_, Or.inr ⟨by rw [HF.out]; decide, rfl⟩⟩
            rw [HF.out]; rfl
        · obtain rfl : k = ps.length := by omega
          have hall2 := hall
          rw [List.take_length] at hall2
          have hpos : 1 ≤ m := by omega
          have h64 : m ≤ 64 := by omega
          have co := order_any w.heap.size m A ca ps w wr rfl hbw HPR.out hpos h64 (fun p hp => by have := hall2 p hp; simpa [okPair] using this) hm
          have HAL := Lib.hid hall2
          clear hm hbw hall hall2
          go_wp2_with fail
          refine co.mono ?_
          rintro e w2 ⟨rfl, hm2, hb2⟩
          have hl2 : LatIs w2 w.heap.size m (leqS m ps) := ⟨hm2, hpos, h64, fun a _ => leqS_refl m ps a, fun a b c _ _ hc h1 h2 => leqS_trans hc h1 h2⟩
          have cs := sound_any w2 (HT.out.below hb2) hl2
          have HL2 := Lib.hid hl2
          have HB2 := Lib.hid hb2
          clear hm2 hb2 hl2 co
          by_cases hs : Sound m (leqS m ps)
          · have HF := Lib.hid (show errS m ps = 0 from by
              unfold errS
              rw [if_neg (by omega), if_neg, if_pos]
              · exact hs
              · rw [Bool.not_eq_false, List.all_eq_true]; exact HAL.out)
            rw [decide_eq_true hs] at cs
            clear hs
            go_wp2_with fail
            refine cs.mono ?_
            rintro e w3 ⟨rfl, m3, rfl⟩
            go_wp2
            go_ret2
            refine ⟨below_drewN' HB2.out m3, _, ?_, Or.inl ⟨HF.out, w.heap.size, rfl, Nat.le_refl _, HL2.out.heap rfl⟩⟩
            rw [HF.out]; rfl
          · have HF := Lib.hid (show errS m ps = 1 from by
              unfold errS
              rw [if_neg (by omega), if_neg, if_neg]
              · exact hs
              · rw [Bool.not_eq_false, List.all_eq_true]; exact HAL.out)
            rw [decide_eq_false hs] at cs
            clear hs
            go_wp2_with fail
            refine cs.mono ?_
            rintro e w3 ⟨rfl, m3, rfl⟩
            go_wp2
            go_ret2
            refine ⟨below_drewN' HB2.out m3, _, ?_, Or.inr ⟨by rw [HF.out]; decide, rfl⟩⟩
            rw [HF.out]; rfl

theorem new_ok (A : Option Addr) (ca m : Nat) (ps : List (Int × Int)) (w : World) (hT : TabIs w) (hpr : PairsAt w A ca ps) (he : errS m ps = 0) :
    Calls Tryz.prog 19 #[.int .i64 m, .slice A ps.length ca] w fun e w' =>
      ∃ b, e = .returned (.tuple #[.pointer (some ⟨b, 0, none⟩), .int .i64 0]) ∧ Below w.heap.size w w' ∧ w.heap.size ≤ b ∧ LatIs w' b m (leqS m ps) := by
  refine (new_any A ca m ps w hT hpr).mono ?_
  rintro e w1 ⟨b1, p, rfl, h⟩
  rcases h with ⟨_, b, rfl, hbl, hl⟩ | ⟨h, _⟩
  · exact ⟨b, by rw [he], b1, hbl, hl⟩
  · exact absurd he h
theorem new_err (A : Option Addr) (ca : Nat) (n k : Int) (ps : List (Int × Int)) (w : World) (hT : TabIs w) (hpr : PairsAt w A ca ps) (he : errS n ps = k) (hk : k ≠ 0) :
    Calls Tryz.prog 19 #[.int .i64 n, .slice A ps.length ca] w fun e w' => e = .returned (.tuple #[.pointer none, .int .i64 k]) ∧ Below w.heap.size w w' := by
  refine (new_any A ca n ps w hT hpr).mono ?_
  rintro e w1 ⟨b1, p, rfl, h⟩
  rcases h with ⟨h, _⟩ | ⟨_, rfl⟩
  · exact absurd (he.symm.trans h) hk
  · exact ⟨by rw [he], b1⟩

end Go.Proofs.YtkcmhdkhdjmjeaaGreatDoor
