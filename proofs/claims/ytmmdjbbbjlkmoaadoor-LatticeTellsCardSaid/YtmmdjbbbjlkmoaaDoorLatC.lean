/-
  Package lattice: order: what it lays into the lattice that it is given.
-/
import Derived.Test.YtmmdjbbbjlkmoaaDoorLatB
import Derived.Test.YtmmdjbbbjlkmoaaDoorPrs
import Derived.Test.YtmmdjbbbjlkmoaaDoorReg
namespace Go.Proofs.YtmmdjbbbjlkmoaaDoor
open Go.RowKit
set_option linter.unusedVariables false
set_option linter.unusedSimpArgs false

theorem LatMem.setUp {w : World} {b n : Nat} {up dn : Nat → Nat} (h : LatMem w b n up dn) {a v : Nat} (ha : a < 64) (hv : v < 2 ^ 64) :
    LatMem (w.setCell ⟨b, 1 + a, none⟩ (.int .u64 v)) b n (fun x => if x = a then v else up x) dn := by
  refine ⟨?_, fun x hx => ?_, fun x hx => ?_, fun i => ?_, fun x => ?_, h.ld⟩
  · rw [World.cell?_setCell_other _ _ _ _ (by simp)]; exact h.c0
  · by_cases e : x = a
    · subst e
      rw [if_pos rfl]
      exact World.cell?_setCell_same _ _ _ (h.cu x hx)
    · rw [if_neg e, World.cell?_setCell_other _ _ _ _ (by simp)]; exact h.cu x hx
  · rw [World.cell?_setCell_other _ _ _ _ (by simp)]; exact h.cd x hx
  · rw [World.frozen?_setCell]; exact h.fz i
  · split
    · exact hv
    · exact h.lu x
theorem LatMem.setDn {w : World} {b n : Nat} {up dn : Nat → Nat} (h : LatMem w b n up dn) {a v : Nat} (ha : a < 64) (hv : v < 2 ^ 64) :
    LatMem (w.setCell ⟨b, 65 + a, none⟩ (.int .u64 v)) b n up (fun x => if x = a then v else dn x) := by
  refine ⟨?_, fun x hx => ?_, fun x hx => ?_, fun i => ?_, h.lu, fun x => ?_⟩
  · rw [World.cell?_setCell_other _ _ _ _ (by simp)]; exact h.c0
  · rw [World.cell?_setCell_other _ _ _ _ (by simp)]; exact h.cu x hx
  · by_cases e : x = a
    · subst e
      rw [if_pos rfl]
      exact World.cell?_setCell_same _ _ _ (h.cd x hx)
    · rw [if_neg e, World.cell?_setCell_other _ _ _ _ (by simp)]; exact h.cd x hx
  · rw [World.frozen?_setCell]; exact h.fz i
  · split
    · exact hv
    · exact h.ld x
theorem LatMem.eq {w : World} {b n : Nat} {up dn up' dn' : Nat → Nat} (h : LatMem w b n up dn) (hu : ∀ a, up a = up' a) (hd : ∀ a, dn a = dn' a) : LatMem w b n up' dn' := by
  rw [← funext hu, ← funext hd]; exact h

/-! What lies above each, loop by loop. -/
def up1 (k a : Nat) : Nat := if a < k then 2 ^ a else 0
def up3 (n : Nat) (R : Rel) (k a x : Nat) : Nat := if x < a then upF n (warN R (k + 1)) x else upF n (warN R k) x
def dn5 (n : Nat) (R : Rel) (a j y : Nat) : Nat := if y < n then bitsOf (fun x => R x y && (decide (x < a) || decide (x = a) && decide (y < j))) n else 0
theorem up1_end (n a : Nat) : up1 n a = upF n (baseR []) a := by
  unfold up1 upF
  by_cases h : a < n
  · rw [if_pos h, if_pos h]
    apply Nat.eq_of_testBit_eq
    intro i
    rw [testBit_bitsOf, Nat.testBit_two_pow]
    simp only [baseR, List.contains_nil, Bool.or_false]
    by_cases e : a = i
    · subst e; simp [h]
    · simp [e]
  · rw [if_neg h, if_neg h]
theorem up1_step (k a : Nat) : (if a = k then 2 ^ k else up1 k a) = up1 (k + 1) a := by
  unfold up1
  by_cases h : a = k
  · subst h; simp
  · rw [if_neg h]
    by_cases h2 : a < k
    · rw [if_pos h2, if_pos (by omega)]
    · rw [if_neg h2, if_neg (by omega)]
theorem up2_step {n : Nat} {ps : List (Int × Int)} {k p q : Nat} (hk : k < ps.length) (he : ps[k] = ((p : Int), (q : Int))) (hp : p < n) (hq : q < n) (a : Nat) :
    (if a = p then upF n (baseR (ps.take k)) p ||| 2 ^ q else upF n (baseR (ps.take k)) a) = upF n (baseR (ps.take (k + 1))) a := by
  have ht : ps.take (k + 1) = ps.take k ++ [((p : Int), (q : Int))] := by rw [List.take_succ_eq_append_getElem hk, he]
  by_cases h : a < n
  · apply Nat.eq_of_testBit_eq
    intro i
    rw [testBit_upF h]
    by_cases e : a = p
    · subst e
      rw [if_pos rfl, Nat.testBit_or, testBit_upF h, Nat.testBit_two_pow, ht]
      by_cases hi : i < n
      · simp only [baseR, List.contains_append, List.contains_cons, List.contains_nil, Bool.or_false, decide_eq_true hi, Bool.true_and, ← Bool.or_assoc]
        congr 1
        apply Bool.eq_iff_iff.2
        simp
        omega
      · have : ¬ q = i := by omega
        simp [hi, this]
    · rw [if_neg e, testBit_upF h, ht]
      simp only [baseR, List.contains_append, List.contains_cons, List.contains_nil, Bool.or_false]
      have : (((a : Int), (i : Int)) == ((p : Int), (q : Int))) = false := by
        rw [Bool.eq_false_iff]; intro e2; apply e; simp at e2; omega
      rw [this, Bool.or_false]
  · have e : a ≠ p := by omega
    rw [if_neg e]
    unfold upF
    rw [if_neg h, if_neg h]
theorem warStep_row (R : Rel) (k b : Nat) : warStep k R k b = R k b := by
  unfold warStep
  cases R k b <;> simp
theorem up3_row {n : Nat} {R : Rel} {k a : Nat} : up3 n R k a k = upF n (warN R k) k := by
  unfold up3
  split
  · unfold upF
    split
    · apply Nat.eq_of_testBit_eq
      intro i
      rw [testBit_bitsOf, testBit_bitsOf, warN, warStep_row]
    · rfl
  · rfl
theorem up3_yes {n : Nat} {R : Rel} {k a : Nat} (ha : a < n) (hk : k < n) (h : warN R k a k = true) (x : Nat) :
    (if x = a then upF n (warN R k) a ||| upF n (warN R k) k else up3 n R k a x) = up3 n R k (a + 1) x := by
  unfold up3
  by_cases e : x = a
  · subst e
    rw [if_pos rfl, if_pos (by omega)]
    apply Nat.eq_of_testBit_eq
    intro i
    rw [Nat.testBit_or, testBit_upF ha, testBit_upF hk, testBit_upF ha, warN, warStep, h]
    cases decide (i < n) <;> simp
  · rw [if_neg e]
    by_cases h2 : x < a
    · rw [if_pos h2, if_pos (by omega)]
    · rw [if_neg h2, if_neg (by omega)]
theorem up3_no {n : Nat} {R : Rel} {k a : Nat} (ha : a < n) (hk : k < n) (h : warN R k a k = false) (x : Nat) :
    up3 n R k a x = up3 n R k (a + 1) x := by
  unfold up3
  by_cases e : x = a
  · subst e
    rw [if_neg (by omega), if_pos (by omega)]
    apply Nat.eq_of_testBit_eq
    intro i
    rw [testBit_upF ha, testBit_upF ha, warN, warStep, h]
    simp
  · by_cases h2 : x < a
    · rw [if_pos h2, if_pos (by omega)]
    · rw [if_neg h2, if_neg (by omega)]
theorem up3_start (n : Nat) (R : Rel) (k x : Nat) : upF n (warN R k) x = up3 n R k 0 x := by unfold up3; rw [if_neg (by omega)]
theorem up3_end (n : Nat) (R : Rel) (k x : Nat) : up3 n R k n x = upF n (warN R (k + 1)) x := by
  unfold up3
  split
  · rfl
  · unfold upF
    rw [if_neg (by assumption), if_neg (by assumption)]
theorem testBit_dn5 {n : Nat} {R : Rel} {a j y : Nat} (hy : y < n) (i : Nat) : (dn5 n R a j y).testBit i = (decide (i < n) && (R i y && (decide (i < a) || decide (i = a) && decide (y < j)))) := by
  rw [dn5, if_pos hy, testBit_bitsOf]
theorem dn5_start (n : Nat) (R : Rel) (y : Nat) : (0 : Nat) = dn5 n R 0 0 y := by
  by_cases hy : y < n
  · apply Nat.eq_of_testBit_eq
    intro i
    rw [testBit_dn5 hy]; simp
  · rw [dn5, if_neg hy]
theorem dn5_next (n : Nat) (R : Rel) (a y : Nat) : dn5 n R a n y = dn5 n R (a + 1) 0 y := by
  by_cases hy : y < n
  · apply Nat.eq_of_testBit_eq
    intro i
    rw [testBit_dn5 hy, testBit_dn5 hy]
    congr 2
    by_cases h1 : i < a
    · simp [h1]; omega
    · by_cases h2 : i = a
      · subst h2; simp [hy]
      · have : ¬ i < a + 1 := by omega
        simp [h1, h2, this]
  · rw [dn5, dn5, if_neg hy, if_neg hy]
theorem dn5_end (n : Nat) (R : Rel) (y : Nat) : dn5 n R n 0 y = upF n (flipR R) y := by
  by_cases hy : y < n
  · apply Nat.eq_of_testBit_eq
    intro i
    rw [testBit_dn5 hy, testBit_upF hy]
    by_cases hi : i < n <;> simp [hi, flipR]
  · rw [dn5, upF, if_neg hy, if_neg hy]
theorem dn5_yes {n : Nat} {R : Rel} {a j : Nat} (ha : a < n) (hj : j < n) (h : R a j = true) (y : Nat) :
    (if y = j then dn5 n R a j j ||| 2 ^ a else dn5 n R a j y) = dn5 n R a (j + 1) y := by
  by_cases hy : y < n
  · apply Nat.eq_of_testBit_eq
    intro i
    rw [testBit_dn5 hy]
    by_cases e : y = j
    · subst e
      rw [if_pos rfl, Nat.testBit_or, testBit_dn5 hy, Nat.testBit_two_pow]
      by_cases h2 : a = i
      · subst h2; simp [ha, h]
      · have : ¬ i = a := fun e => h2 e.symm
        simp [h2, this]
    · rw [if_neg e, testBit_dn5 hy]
      congr 4
      apply Bool.eq_iff_iff.2
      simp
      omega
  · rw [if_neg (by omega), dn5, dn5, if_neg hy, if_neg hy]
theorem dn5_no {n : Nat} {R : Rel} {a j : Nat} (ha : a < n) (hj : j < n) (h : R a j = false) (y : Nat) : dn5 n R a j y = dn5 n R a (j + 1) y := by
  by_cases hy : y < n
  · apply Nat.eq_of_testBit_eq
    intro i
    rw [testBit_dn5 hy, testBit_dn5 hy]
    by_cases e : y = j
    · subst e
      by_cases h2 : i = a
      · subst h2; simp [h]
      · simp [h2]
    · congr 4
      apply Bool.eq_iff_iff.2
      simp
      omega
  · rw [dn5, dn5, if_neg hy, if_neg hy]

def OrdRel (b n : Nat) (w1 : World) (up dn : Nat → Nat → Nat) (m : Nat) (i : Value) (wr : World) : Prop :=
  ∃ k : Nat, i = .int .i64 k ∧ k ≤ m ∧ LatMem wr b n (up k) (dn k) ∧ Below b w1 wr

set_option maxRecDepth 100000 in
set_option maxHeartbeats 4000000 in
theorem order_any (b n : Nat) (A : Option Addr) (ca : Nat) (ps : List (Int × Int)) (w1 w : World) (hb : w1.heap.size = b) (hbel : Below b w1 w) (hpr : PairsAt w1 A ca ps) (h1 : 1 ≤ n) (h64 : n ≤ 64)
    (hok : ∀ p ∈ ps, 0 ≤ p.1 ∧ p.1 < n ∧ 0 ≤ p.2 ∧ p.2 < n) (h : LatMem w b n (fun _ => 0) (fun _ => 0)) :
    Calls Tryd.prog 20 #[.pointer (some ⟨b, 0, none⟩), .slice A ps.length ca] w fun e w' => e = .returned (.tuple #[]) ∧
      LatMem w' b n (upF n (leqS n ps)) (upF n (flipR (leqS n ps))) ∧ Below b w1 w' := by
  have c0 := h.c0
  have HP := Lib.hid h
  have HBL := Lib.hid hbel
  have HPR := Lib.hid hpr
  have HOK := Lib.hid hok
  have hlen : ps.length ≤ 9223372036854775807 := by have := hpr.1; have := hpr.2.1; unfold maxLen at this; omega
  clear h hbel hpr hok
  go_enter Tryd.func20, Tryd.ntmps20
  go_wp2_with fail
  go_loopw [15] (fun i wr => OrdRel b n w1 up1 (fun _ _ => 0) n i wr) (fun i _ => n - (intOf i).toNat)
  case atStart => exact ⟨0, rfl, Nat.zero_le _, HP.out.eq (fun a => by simp [up1]) (fun _ => rfl), HBL.out⟩
  case round =>
    obtain ⟨k, rfl, hk, hm, hbw⟩ := hrel
    (try dsimp only at hm)
    have HM := Lib.hid hm
    have HB := Lib.hid hbw
    by_cases hkn : k < n
    · have hfz := hm.fz (1 + k)
      have hcu := hm.cu k (by omega)
      have c1 := fun W => one_any k (by omega) W
      have hk64 : (k : Int) < 64 := by omega
      have HL := Lib.hid (hm.setUp (a := k) (v := 2 ^ k) (by omega) (pow_lt64 (by omega)))
      generalize hpw : 2 ^ k = pw at *
      have HPW := Lib.hid hpw
      clear hm hbw hpw
      go_wp2_with fail
      refine wp_region_N (fun W => True) (fun j => decide (j < 6)) (by kernel_rfl) ?_
      have hS : True := trivial
      refine wpAnyN_take_at 0 18 (v := ?_) rfl rfl (by kernel_rfl) (by kernel_rfl) (by kernel_rfl) (by kernel_rfl) (by kernel_rfl) (fun _ _ _ h => h) (by rfl) ?_ hS ?_
      rotate_left
      · intro w hSw; (try dsimp only at hSw); go_simp; (try with_reducible rfl)
      simp only [Act.put, List.setIfInBounds_toArray, List.set_cons_zero, List.set_cons_succ]
      refine wpAnyN_take_at 1 19 (v := ?_) rfl rfl (by kernel_rfl) (by kernel_rfl) (by kernel_rfl) (by kernel_rfl) (by kernel_rfl) (fun _ _ _ h => h) (by rfl) ?_ hS ?_
      rotate_left
      · intro w hSw; (try dsimp only at hSw); go_simp; (try with_reducible rfl)
      simp only [Act.put, List.setIfInBounds_toArray, List.set_cons_zero, List.set_cons_succ]
      refine wpAnyN_take_at 2 20 (v := ?_) rfl rfl (by kernel_rfl) (by kernel_rfl) (by kernel_rfl) (by kernel_rfl) (by kernel_rfl) (fun _ _ _ h => h) (by rfl) ?_ hS ?_
      rotate_left
      · intro w hSw; (try dsimp only at hSw); go_simp; (try with_reducible rfl)
      simp only [Act.put, List.setIfInBounds_toArray, List.set_cons_zero, List.set_cons_succ]
      refine wpAnyN_take_at 4 22 (v := ?_) rfl rfl (by kernel_rfl) (by kernel_rfl) (by kernel_rfl) (by kernel_rfl) (by kernel_rfl) (fun _ _ _ h => h) (by rfl) ?_ hS ?_
      rotate_left
      · intro w hSw; (try dsimp only at hSw); go_simp; (try with_reducible rfl)
      simp only [Act.put, List.setIfInBounds_toArray, List.set_cons_zero, List.set_cons_succ]
      refine wpAnyN_take_at 5 23 (v := ?_) rfl rfl (by kernel_rfl) (by kernel_rfl) (by kernel_rfl) (by kernel_rfl) (by kernel_rfl) (fun _ _ _ h => h) (by rfl) ?_ hS ?_
      rotate_left
      · intro w hSw; (try dsimp only at hSw); go_simp; (try with_reducible rfl)
      simp only [Act.put, List.setIfInBounds_toArray, List.set_cons_zero, List.set_cons_succ]
      refine wpAnyN_one (i := 3) rfl (by kernel_rfl) (fun K hK => ?_)
      go_simp
      refine (c1 _).mono ?_
      rintro e w2 ⟨rfl, rfl⟩
      refine hK _ _ (fun _ => trivial) ?_
      clear hK hS
      refine wpAnyN_rest 6 [_, _] rfl (by kernel_rfl) (by kernel_rfl) ?_
      go_wp2
      go_roundw
      case rel =>
        refine ⟨k + 1, by go_num, by omega, ?_, (below_drewN' HB.out 1).setCell (Nat.le_refl _) _⟩
        exact (HL.out.eq (fun a => by rw [← HPW.out]; exact up1_step k a) (fun _ => rfl)).heap rfl
      case measure => simp [intOf]; omega
    · obtain rfl : k = n := by omega
      have HM := Lib.hid (hm.eq (up' := upF k (baseR (ps.take 0))) (fun a => up1_end k a) (fun _ => rfl))
      clear hm hbw
      go_wp2_with fail
      go_loopw [28] (fun i wr => OrdRel b k w1 (fun j => upF k (baseR (ps.take j))) (fun _ _ => 0) ps.length i wr) (fun i _ => ps.length - (intOf i).toNat)
      case atStart => exact ⟨0, rfl, Nat.zero_le _, HM.out, HB.out⟩
      case round =>
        obtain ⟨j, rfl, hj, hm, hbw⟩ := hrel
        (try dsimp only at hm)
        have HM := Lib.hid hm
        have HB := Lib.hid hbw
        by_cases hjn : j < ps.length
        · have hpr2 := HPR.out.below (by rw [hb]; exact hbw)
          obtain ⟨ba, off, rfl, hlt, hc, hc'⟩ := hpr2.at hjn
          obtain ⟨p, q, hpq, hpn, hqn⟩ : ∃ p q : Nat, ps[j] = ((p : Int), (q : Int)) ∧ p < k ∧ q < k := by
            obtain ⟨o1, o2, o3, o4⟩ := HOK.out _ (List.getElem_mem hjn)
            exact ⟨(ps[j]).1.toNat, (ps[j]).2.toNat, Prod.ext (by simp; omega) (by simp; omega), by omega, by omega⟩
          rw [hpq] at hc hc'
          simp only at hc hc'
          have hma := hm.below ((Below.refl _ wr).alloc (Nat.le_refl _) (.cells #[.int .i64 p, .int .i64 q] 43))
          have hbx := box_cell wr (.int .i64 p) (.int .i64 q) 43
          have HBA := Lib.hid (hbw.alloc (by have := hbw.size; omega) (.cells #[.int .i64 p, .int .i64 q] 43))
          have c1 := fun W => one_any q (by omega) W
          have hp64 : (p : Int) < 64 := by omega
          have hor := bits_or_u64_nat _ (2 ^ q) (hm.lu p) (pow_lt64 (show q < 64 by omega))
          have HL := Lib.hid ((hma.setUp (a := p) (by omega) (or_lt64 (hm.lu p) (pow_lt64 (show q < 64 by omega)))).eq (up' := upF k (baseR (ps.take (j + 1)))) (fun a => up2_step hjn hpq hpn hqn a) (fun _ => rfl))
          have hfz := hma.fz (1 + p)
          have hcu := hma.cu p (by omega)
          generalize 2 ^ q = pw at *
          clear hm hbw hpr2 hma hpq
          go_wp2_with fail
          refine wp_region_N (fun W => W.cell? ⟨wr.heap.size, 0, none⟩ = some (.int .i64 p) ∧ W.cell? ⟨wr.heap.size, 1, none⟩ = some (.int .i64 q) ∧ W.cell? ⟨b, 1 + p, none⟩ = some (.int .u64 (upF k (baseR (ps.take j)) p))) (fun j => decide (j < 13)) (by kernel_rfl) ?_
          have hS : (wr.alloc (.cells #[.int .i64 p, .int .i64 q] 43)).drew.cell? ⟨wr.heap.size, 0, none⟩ = some (.int .i64 p) ∧ (wr.alloc (.cells #[.int .i64 p, .int .i64 q] 43)).drew.cell? ⟨wr.heap.size, 1, none⟩ = some (.int .i64 q) ∧ (wr.alloc (.cells #[.int .i64 p, .int .i64 q] 43)).drew.cell? ⟨b, 1 + p, none⟩ = some (.int .u64 (upF k (baseR (ps.take j)) p)) := ⟨hbx.1, hbx.2, hcu⟩
          refine wpAnyN_take_at 0 32 (v := ?_) rfl rfl (by kernel_rfl) (by kernel_rfl) (by kernel_rfl) (by kernel_rfl) (by kernel_rfl) (fun _ _ _ h => h) (by rfl) ?_ hS ?_
          rotate_left
          · intro w hSw; (try dsimp only at hSw); obtain ⟨s1, s2, s3⟩ := hSw; go_simp; (try with_reducible rfl)
          simp only [Act.put, List.setIfInBounds_toArray, List.set_cons_zero, List.set_cons_succ]
          refine wpAnyN_take_at 1 33 (v := ?_) rfl rfl (by kernel_rfl) (by kernel_rfl) (by kernel_rfl) (by kernel_rfl) (by kernel_rfl) (fun _ _ _ h => h) (by rfl) ?_ hS ?_
          rotate_left
          · intro w hSw; (try dsimp only at hSw); obtain ⟨s1, s2, s3⟩ := hSw; go_simp; (try with_reducible rfl)
          simp only [Act.put, List.setIfInBounds_toArray, List.set_cons_zero, List.set_cons_succ]
          refine wpAnyN_take_at 2 34 (v := ?_) rfl rfl (by kernel_rfl) (by kernel_rfl) (by kernel_rfl) (by kernel_rfl) (by kernel_rfl) (fun _ _ _ h => h) (by rfl) ?_ hS ?_
          rotate_left
          · intro w hSw; (try dsimp only at hSw); obtain ⟨s1, s2, s3⟩ := hSw; go_simp; (try with_reducible rfl)
          simp only [Act.put, List.setIfInBounds_toArray, List.set_cons_zero, List.set_cons_succ]
          refine wpAnyN_take_at 3 35 (v := ?_) rfl rfl (by kernel_rfl) (by kernel_rfl) (by kernel_rfl) (by kernel_rfl) (by kernel_rfl) (fun _ _ _ h => h) (by rfl) ?_ hS ?_
          rotate_left
          · intro w hSw; (try dsimp only at hSw); obtain ⟨s1, s2, s3⟩ := hSw; go_simp; (try with_reducible rfl)
          simp only [Act.put, List.setIfInBounds_toArray, List.set_cons_zero, List.set_cons_succ]
          refine wpAnyN_take_at 4 36 (v := ?_) rfl rfl (by kernel_rfl) (by kernel_rfl) (by kernel_rfl) (by kernel_rfl) (by kernel_rfl) (fun _ _ _ h => h) (by rfl) ?_ hS ?_
          rotate_left
          · intro w hSw; (try dsimp only at hSw); obtain ⟨s1, s2, s3⟩ := hSw; go_simp; (try with_reducible rfl)
          simp only [Act.put, List.setIfInBounds_toArray, List.set_cons_zero, List.set_cons_succ]
          refine wpAnyN_take_at 5 37 (v := ?_) rfl rfl (by kernel_rfl) (by kernel_rfl) (by kernel_rfl) (by kernel_rfl) (by kernel_rfl) (fun _ _ _ h => h) (by rfl) ?_ hS ?_
          rotate_left
          · intro w hSw; (try dsimp only at hSw); obtain ⟨s1, s2, s3⟩ := hSw; go_simp; (try with_reducible rfl)
          simp only [Act.put, List.setIfInBounds_toArray, List.set_cons_zero, List.set_cons_succ]
          refine wpAnyN_take_at 6 38 (v := ?_) rfl rfl (by kernel_rfl) (by kernel_rfl) (by kernel_rfl) (by kernel_rfl) (by kernel_rfl) (fun _ _ _ h => h) (by rfl) ?_ hS ?_
          rotate_left
          · intro w hSw; (try dsimp only at hSw); obtain ⟨s1, s2, s3⟩ := hSw; go_simp; (try with_reducible rfl)
          simp only [Act.put, List.setIfInBounds_toArray, List.set_cons_zero, List.set_cons_succ]
          refine wpAnyN_take_at 7 39 (v := ?_) rfl rfl (by kernel_rfl) (by kernel_rfl) (by kernel_rfl) (by kernel_rfl) (by kernel_rfl) (fun _ _ _ h => h) (by rfl) ?_ hS ?_
          rotate_left
          · intro w hSw; (try dsimp only at hSw); obtain ⟨s1, s2, s3⟩ := hSw; go_simp; (try with_reducible rfl)
          simp only [Act.put, List.setIfInBounds_toArray, List.set_cons_zero, List.set_cons_succ]
          refine wpAnyN_take_at 8 40 (v := ?_) rfl rfl (by kernel_rfl) (by kernel_rfl) (by kernel_rfl) (by kernel_rfl) (by kernel_rfl) (fun _ _ _ h => h) (by rfl) ?_ hS ?_
          rotate_left
          · intro w hSw; (try dsimp only at hSw); obtain ⟨s1, s2, s3⟩ := hSw; go_simp; (try with_reducible rfl)
          simp only [Act.put, List.setIfInBounds_toArray, List.set_cons_zero, List.set_cons_succ]
          refine wpAnyN_take_at 11 43 (v := ?_) rfl rfl (by kernel_rfl) (by kernel_rfl) (by kernel_rfl) (by kernel_rfl) (by kernel_rfl) (fun _ _ _ h => h) (by rfl) ?_ hS ?_
          rotate_left
          · intro w hSw; (try dsimp only at hSw); obtain ⟨s1, s2, s3⟩ := hSw; go_simp; (try with_reducible rfl)
          simp only [Act.put, List.setIfInBounds_toArray, List.set_cons_zero, List.set_cons_succ]
          refine wpAnyN_take_at 12 44 (v := ?_) rfl rfl (by kernel_rfl) (by kernel_rfl) (by kernel_rfl) (by kernel_rfl) (by kernel_rfl) (fun _ _ _ h => h) (by rfl) ?_ hS ?_
          rotate_left
          · intro w hSw; (try dsimp only at hSw); obtain ⟨s1, s2, s3⟩ := hSw; go_simp; (try with_reducible rfl)
          simp only [Act.put, List.setIfInBounds_toArray, List.set_cons_zero, List.set_cons_succ]
          refine wpAnyN_one (i := 9) rfl (by kernel_rfl) (fun K hK => ?_)
          go_simp
          refine (c1 _).mono ?_
          rintro e w2 ⟨rfl, rfl⟩
          refine hK _ _ (fun _ => hS) ?_
          clear hK
          refine wpAnyN_take_at 10 42 (v := ?_) rfl rfl (by kernel_rfl) (by kernel_rfl) (by kernel_rfl) (by kernel_rfl) (by kernel_rfl) (fun _ _ _ h => h) (by rfl) ?_ hS ?_
          rotate_left
          · intro w hSw; (try dsimp only at hSw); obtain ⟨s1, s2, s3⟩ := hSw; go_simp; (try with_reducible rfl)
          simp only [Act.put, List.setIfInBounds_toArray, List.set_cons_zero, List.set_cons_succ]
          clear hS
          refine wpAnyN_rest 13 [_, _] rfl (by kernel_rfl) (by kernel_rfl) ?_
          go_wp2_with (simp only [hor])
          go_roundw
          case rel =>
            refine ⟨j + 1, by go_num, by omega, ?_, (below_drewN' HBA.out 1).setCell (Nat.le_refl _) _⟩
            exact HL.out.heap rfl
          case measure => simp [intOf]; omega
        · obtain rfl : j = ps.length := by omega
          have HM := Lib.hid (hm.eq (up' := upF k (warN (baseR ps) 0)) (fun a => by rw [List.take_length]; rfl) (fun _ => rfl))
          have c0 := hm.c0
          clear hm hbw
          go_wp2_with fail
          go_loopw [51] (fun i wr => OrdRel b k w1 (fun j => upF k (warN (baseR ps) j)) (fun _ _ => 0) k i wr) (fun i _ => k - (intOf i).toNat)
          case atStart => exact ⟨0, rfl, Nat.zero_le _, HM.out, HB.out⟩
          case round =>
            obtain ⟨by', rfl, hby, hm, hbw⟩ := hrel
            (try dsimp only at hm)
            have HM := Lib.hid hm
            have HB := Lib.hid hbw
            have c0 := hm.c0
            by_cases hbyn : by' < k
            · have HM3 := Lib.hid (hm.eq (up' := up3 k (baseR ps) by' 0) (fun a => up3_start k (baseR ps) by' a) (fun _ => rfl))
              clear hm hbw
              go_wp2_with fail
              go_loopw [58] (fun i wr => OrdRel b k w1 (fun j => up3 k (baseR ps) by' j) (fun _ _ => 0) k i wr) (fun i _ => k - (intOf i).toNat)
              case atStart => exact ⟨0, rfl, Nat.zero_le _, HM3.out, HB.out⟩
              case round =>
                obtain ⟨a, rfl, ha, hm, hbw⟩ := hrel
                (try dsimp only at hm)
                have HB := Lib.hid hbw
                by_cases han : a < k
                · have hcu := hm.cu a (by omega)
                  have hcy := hm.cu by' (by omega)
                  rw [up3_row] at hcy
                  rw [show up3 k (baseR ps) by' a a = upF k (warN (baseR ps) by') a from by unfold up3; rw [if_neg (by omega)]] at hcu
                  have hu1 := upF_lt h64 (warN (baseR ps) by') a
                  have hu2 := upF_lt h64 (warN (baseR ps) by') by'
                  have ch := fun W => holds_any (upF k (warN (baseR ps) by') a) by' hu1 (by omega) W
                  rw [testBit_upF han, decide_eq_true hbyn, Bool.true_and] at ch
                  have ha64 : (a : Int) < 64 := by omega
                  have hb64 : (by' : Int) < 64 := by omega
                  cases hh : warN (baseR ps) by' a by' with
                  | false =>
                    rw [hh] at ch
                    have HL := Lib.hid (hm.eq (up' := up3 k (baseR ps) by' (a + 1)) (fun x => up3_no han hbyn hh x) (fun _ => rfl))
                    clear hm hbw hh
                    go_wp2_with fail
                    refine (ch _).mono ?_
                    rintro e w2 ⟨rfl, rfl⟩
                    go_wp2
                    go_roundw
                    case rel => exact ⟨a + 1, by go_num, by omega, HL.out, HB.out⟩
                    case measure => simp [intOf]; omega
                  | true =>
                    rw [hh] at ch
                    have hor := bits_or_u64_nat _ _ hu1 hu2
                    have hfz := hm.fz (1 + a)
                    have HL := Lib.hid ((hm.setUp (a := a) (by omega) (or_lt64 hu1 hu2)).eq (up' := up3 k (baseR ps) by' (a + 1)) (fun x => up3_yes han hbyn hh x) (fun _ => rfl))
                    generalize upF k (warN (baseR ps) by') a = ua at *
                    generalize upF k (warN (baseR ps) by') by' = ub at *
                    clear hm hbw hh
                    go_wp2_with fail
                    refine (ch _).mono ?_
                    rintro e w2 ⟨rfl, rfl⟩
                    go_wp2_with fail
                    refine wp_region_N (fun W => W.cell? ⟨b, 1 + a, none⟩ = some (.int .u64 ua) ∧ W.cell? ⟨b, 1 + by', none⟩ = some (.int .u64 ub)) (fun j => decide (j < 15)) (by kernel_rfl) ?_
                    have hS : w2.drew.cell? ⟨b, 1 + a, none⟩ = some (.int .u64 ua) ∧ w2.drew.cell? ⟨b, 1 + by', none⟩ = some (.int .u64 ub) := ⟨hcu, hcy⟩
                    refine wpAnyN_take_at 0 69 (v := ?_) rfl rfl (by kernel_rfl) (by kernel_rfl) (by kernel_rfl) (by kernel_rfl) (by kernel_rfl) (fun _ _ _ h => h) (by rfl) ?_ hS ?_
                    rotate_left
                    · intro w hSw; (try dsimp only at hSw); obtain ⟨s1, s2⟩ := hSw; go_simp; (try with_reducible rfl)
                    simp only [Act.put, List.setIfInBounds_toArray, List.set_cons_zero, List.set_cons_succ]
                    refine wpAnyN_take_at 1 70 (v := ?_) rfl rfl (by kernel_rfl) (by kernel_rfl) (by kernel_rfl) (by kernel_rfl) (by kernel_rfl) (fun _ _ _ h => h) (by rfl) ?_ hS ?_
                    rotate_left
                    · intro w hSw; (try dsimp only at hSw); obtain ⟨s1, s2⟩ := hSw; go_simp; (try with_reducible rfl)
                    simp only [Act.put, List.setIfInBounds_toArray, List.set_cons_zero, List.set_cons_succ]
                    refine wpAnyN_take_at 2 71 (v := ?_) rfl rfl (by kernel_rfl) (by kernel_rfl) (by kernel_rfl) (by kernel_rfl) (by kernel_rfl) (fun _ _ _ h => h) (by rfl) ?_ hS ?_
                    rotate_left
                    · intro w hSw; (try dsimp only at hSw); obtain ⟨s1, s2⟩ := hSw; go_simp; (try with_reducible rfl)
                    simp only [Act.put, List.setIfInBounds_toArray, List.set_cons_zero, List.set_cons_succ]
                    refine wpAnyN_take_at 3 72 (v := ?_) rfl rfl (by kernel_rfl) (by kernel_rfl) (by kernel_rfl) (by kernel_rfl) (by kernel_rfl) (fun _ _ _ h => h) (by rfl) ?_ hS ?_
                    rotate_left
                    · intro w hSw; (try dsimp only at hSw); obtain ⟨s1, s2⟩ := hSw; go_simp; (try with_reducible rfl)
                    simp only [Act.put, List.setIfInBounds_toArray, List.set_cons_zero, List.set_cons_succ]
                    refine wpAnyN_take_at 4 73 (v := ?_) rfl rfl (by kernel_rfl) (by kernel_rfl) (by kernel_rfl) (by kernel_rfl) (by kernel_rfl) (fun _ _ _ h => h) (by rfl) ?_ hS ?_
                    rotate_left
                    · intro w hSw; (try dsimp only at hSw); obtain ⟨s1, s2⟩ := hSw; go_simp; (try with_reducible rfl)
                    simp only [Act.put, List.setIfInBounds_toArray, List.set_cons_zero, List.set_cons_succ]
                    refine wpAnyN_take_at 5 74 (v := ?_) rfl rfl (by kernel_rfl) (by kernel_rfl) (by kernel_rfl) (by kernel_rfl) (by kernel_rfl) (fun _ _ _ h => h) (by rfl) ?_ hS ?_
                    rotate_left
                    · intro w hSw; (try dsimp only at hSw); obtain ⟨s1, s2⟩ := hSw; go_simp; (try with_reducible rfl)
                    simp only [Act.put, List.setIfInBounds_toArray, List.set_cons_zero, List.set_cons_succ]
                    refine wpAnyN_take_at 6 75 (v := ?_) rfl rfl (by kernel_rfl) (by kernel_rfl) (by kernel_rfl) (by kernel_rfl) (by kernel_rfl) (fun _ _ _ h => h) (by rfl) ?_ hS ?_
                    rotate_left
                    · intro w hSw; (try dsimp only at hSw); obtain ⟨s1, s2⟩ := hSw; go_simp; (try with_reducible rfl)
                    simp only [Act.put, List.setIfInBounds_toArray, List.set_cons_zero, List.set_cons_succ]
                    refine wpAnyN_take_at 7 76 (v := ?_) rfl rfl (by kernel_rfl) (by kernel_rfl) (by kernel_rfl) (by kernel_rfl) (by kernel_rfl) (fun _ _ _ h => h) (by rfl) ?_ hS ?_
                    rotate_left
                    · intro w hSw; (try dsimp only at hSw); obtain ⟨s1, s2⟩ := hSw; go_simp; (try with_reducible rfl)
                    simp only [Act.put, List.setIfInBounds_toArray, List.set_cons_zero, List.set_cons_succ]
                    refine wpAnyN_take_at 8 77 (v := ?_) rfl rfl (by kernel_rfl) (by kernel_rfl) (by kernel_rfl) (by kernel_rfl) (by kernel_rfl) (fun _ _ _ h => h) (by rfl) ?_ hS ?_
                    rotate_left
                    · intro w hSw; (try dsimp only at hSw); obtain ⟨s1, s2⟩ := hSw; go_simp; (try with_reducible rfl)
                    simp only [Act.put, List.setIfInBounds_toArray, List.set_cons_zero, List.set_cons_succ]
                    refine wpAnyN_take_at 9 78 (v := ?_) rfl rfl (by kernel_rfl) (by kernel_rfl) (by kernel_rfl) (by kernel_rfl) (by kernel_rfl) (fun _ _ _ h => h) (by rfl) ?_ hS ?_
                    rotate_left
                    · intro w hSw; (try dsimp only at hSw); obtain ⟨s1, s2⟩ := hSw; go_simp; (try with_reducible rfl)
                    simp only [Act.put, List.setIfInBounds_toArray, List.set_cons_zero, List.set_cons_succ]
                    refine wpAnyN_take_at 10 79 (v := ?_) rfl rfl (by kernel_rfl) (by kernel_rfl) (by kernel_rfl) (by kernel_rfl) (by kernel_rfl) (fun _ _ _ h => h) (by rfl) ?_ hS ?_
                    rotate_left
                    · intro w hSw; (try dsimp only at hSw); obtain ⟨s1, s2⟩ := hSw; go_simp; (try with_reducible rfl)
                    simp only [Act.put, List.setIfInBounds_toArray, List.set_cons_zero, List.set_cons_succ]
                    refine wpAnyN_take_at 11 80 (v := ?_) rfl rfl (by kernel_rfl) (by kernel_rfl) (by kernel_rfl) (by kernel_rfl) (by kernel_rfl) (fun _ _ _ h => h) (by rfl) ?_ hS ?_
                    rotate_left
                    · intro w hSw; (try dsimp only at hSw); obtain ⟨s1, s2⟩ := hSw; go_simp; (try with_reducible rfl)
                    simp only [Act.put, List.setIfInBounds_toArray, List.set_cons_zero, List.set_cons_succ]
                    refine wpAnyN_take_at 12 81 (v := ?_) rfl rfl (by kernel_rfl) (by kernel_rfl) (by kernel_rfl) (by kernel_rfl) (by kernel_rfl) (fun _ _ _ h => h) (by rfl) ?_ hS ?_
                    rotate_left
                    · intro w hSw; (try dsimp only at hSw); obtain ⟨s1, s2⟩ := hSw; go_simp; (try with_reducible rfl)
                    simp only [Act.put, List.setIfInBounds_toArray, List.set_cons_zero, List.set_cons_succ]
                    refine wpAnyN_take_at 13 82 (v := ?_) rfl rfl (by kernel_rfl) (by kernel_rfl) (by kernel_rfl) (by kernel_rfl) (by kernel_rfl) (fun _ _ _ h => h) (by rfl) ?_ hS ?_
                    rotate_left
                    · intro w hSw; (try dsimp only at hSw); obtain ⟨s1, s2⟩ := hSw; go_simp; (try with_reducible rfl)
                    simp only [Act.put, List.setIfInBounds_toArray, List.set_cons_zero, List.set_cons_succ]
                    refine wpAnyN_take_at 14 83 (v := ?_) rfl rfl (by kernel_rfl) (by kernel_rfl) (by kernel_rfl) (by kernel_rfl) (by kernel_rfl) (fun _ _ _ h => h) (by rfl) ?_ hS ?_
                    rotate_left
                    · intro w hSw; (try dsimp only at hSw); obtain ⟨s1, s2⟩ := hSw; go_simp; (try with_reducible rfl)
                    simp only [Act.put, List.setIfInBounds_toArray, List.set_cons_zero, List.set_cons_succ]
                    clear hS
                    refine wpAnyN_rest 15 [_, _] rfl (by kernel_rfl) (by kernel_rfl) ?_
                    go_wp2_with (simp only [hor])
                    go_roundw
                    case rel =>
                      refine ⟨a + 1, by go_num, by omega, ?_, (below_drewN' HB.out 1).setCell (Nat.le_refl _) _⟩
                      exact HL.out.heap rfl
                    case measure => simp [intOf]; omega
                · obtain rfl : a = k := by omega
                  have HL := Lib.hid (hm.eq (up' := upF a (warN (baseR ps) (by' + 1))) (fun x => up3_end a (baseR ps) by' x) (fun _ => rfl))
                  clear hm hbw
                  go_wp2
                  go_roundw
                  case rel => exact ⟨by' + 1, by go_num, by omega, HL.out, HB.out⟩
                  case measure => simp [intOf]; omega
            · obtain rfl : by' = k := by omega
              have HM := Lib.hid (hm.eq (dn' := dn5 by' (leqS by' ps) 0 0) (fun _ => rfl) (fun a => dn5_start by' (leqS by' ps) a))
              clear hm hbw
              go_wp2_with fail
              go_loopw [91] (fun i wr => OrdRel b by' w1 (fun _ => upF by' (leqS by' ps)) (fun j => dn5 by' (leqS by' ps) j 0) by' i wr) (fun i _ => by' - (intOf i).toNat)
              case atStart => exact ⟨0, rfl, Nat.zero_le _, HM.out, HB.out⟩
              case round =>
                obtain ⟨a, rfl, ha, hm, hbw⟩ := hrel
                (try dsimp only at hm)
                have HM := Lib.hid hm
                have HB := Lib.hid hbw
                have c0 := hm.c0
                by_cases han : a < by'
                · clear hm hbw
                  go_wp2_with fail
                  go_loopw [98] (fun i wr => OrdRel b by' w1 (fun _ => upF by' (leqS by' ps)) (fun j => dn5 by' (leqS by' ps) a j) by' i wr) (fun i _ => by' - (intOf i).toNat)
                  case atStart => exact ⟨0, rfl, Nat.zero_le _, HM.out, HB.out⟩
                  case round =>
                    obtain ⟨j, rfl, hj, hm, hbw⟩ := hrel
                    (try dsimp only at hm)
                    have HB := Lib.hid hbw
                    by_cases hjn : j < by'
                    · have hcu := hm.cu a (by omega)
                      have hcd := hm.cd j (by omega)
                      have hu1 := upF_lt h64 (leqS by' ps) a
                      have hu2 := hm.ld j
                      have ch := fun W => holds_any (upF by' (leqS by' ps) a) j hu1 (by omega) W
                      rw [testBit_upF han, decide_eq_true hjn, Bool.true_and] at ch
                      have ha64 : (a : Int) < 64 := by omega
                      have hb64 : (j : Int) < 64 := by omega
                      cases hh : leqS by' ps a j with
                      | false =>
                        rw [hh] at ch
                        have HL := Lib.hid (hm.eq (dn' := dn5 by' (leqS by' ps) a (j + 1)) (fun _ => rfl) (fun x => dn5_no han hjn hh x))
                        clear hm hbw hh
                        go_wp2_with fail
                        refine (ch _).mono ?_
                        rintro e w2 ⟨rfl, rfl⟩
                        go_wp2
                        go_roundw
                        case rel => exact ⟨j + 1, by go_num, by omega, HL.out, HB.out⟩
                        case measure => simp [intOf]; omega
                      | true =>
                        rw [hh] at ch
                        have c1 := fun W => one_any a (by omega) W
                        have hor := bits_or_u64_nat _ (2 ^ a) hu2 (pow_lt64 (show a < 64 by omega))
                        have hfz := hm.fz (65 + j)
                        have HL := Lib.hid ((hm.setDn (a := j) (by omega) (or_lt64 hu2 (pow_lt64 (show a < 64 by omega)))).eq (dn' := dn5 by' (leqS by' ps) a (j + 1)) (fun _ => rfl) (fun x => dn5_yes han hjn hh x))
                        generalize upF by' (leqS by' ps) a = ua at *
                        generalize dn5 by' (leqS by' ps) a j j = ub at *
                        generalize 2 ^ a = pw at *
                        clear hm hbw hh
                        go_wp2_with fail
                        refine (ch _).mono ?_
                        rintro e w2 ⟨rfl, rfl⟩
                        go_wp2_with fail
                        refine wp_region_N (fun W => W.cell? ⟨b, 65 + j, none⟩ = some (.int .u64 ub)) (fun j => decide (j < 11)) (by kernel_rfl) ?_
                        have hS : w2.drew.cell? ⟨b, 65 + j, none⟩ = some (.int .u64 ub) := hcd
                        refine wpAnyN_take_at 0 109 (v := ?_) rfl rfl (by kernel_rfl) (by kernel_rfl) (by kernel_rfl) (by kernel_rfl) (by kernel_rfl) (fun _ _ _ h => h) (by rfl) ?_ hS ?_
                        rotate_left
                        · intro w hSw; (try dsimp only at hSw); go_simp; (try with_reducible rfl)
                        simp only [Act.put, List.setIfInBounds_toArray, List.set_cons_zero, List.set_cons_succ]
                        refine wpAnyN_take_at 1 110 (v := ?_) rfl rfl (by kernel_rfl) (by kernel_rfl) (by kernel_rfl) (by kernel_rfl) (by kernel_rfl) (fun _ _ _ h => h) (by rfl) ?_ hS ?_
                        rotate_left
                        · intro w hSw; (try dsimp only at hSw); go_simp; (try with_reducible rfl)
                        simp only [Act.put, List.setIfInBounds_toArray, List.set_cons_zero, List.set_cons_succ]
                        refine wpAnyN_take_at 2 111 (v := ?_) rfl rfl (by kernel_rfl) (by kernel_rfl) (by kernel_rfl) (by kernel_rfl) (by kernel_rfl) (fun _ _ _ h => h) (by rfl) ?_ hS ?_
                        rotate_left
                        · intro w hSw; (try dsimp only at hSw); go_simp; (try with_reducible rfl)
                        simp only [Act.put, List.setIfInBounds_toArray, List.set_cons_zero, List.set_cons_succ]
                        refine wpAnyN_take_at 3 112 (v := ?_) rfl rfl (by kernel_rfl) (by kernel_rfl) (by kernel_rfl) (by kernel_rfl) (by kernel_rfl) (fun _ _ _ h => h) (by rfl) ?_ hS ?_
                        rotate_left
                        · intro w hSw; (try dsimp only at hSw); go_simp; (try with_reducible rfl)
                        simp only [Act.put, List.setIfInBounds_toArray, List.set_cons_zero, List.set_cons_succ]
                        refine wpAnyN_take_at 4 113 (v := ?_) rfl rfl (by kernel_rfl) (by kernel_rfl) (by kernel_rfl) (by kernel_rfl) (by kernel_rfl) (fun _ _ _ h => h) (by rfl) ?_ hS ?_
                        rotate_left
                        · intro w hSw; (try dsimp only at hSw); go_simp; (try with_reducible rfl)
                        simp only [Act.put, List.setIfInBounds_toArray, List.set_cons_zero, List.set_cons_succ]
                        refine wpAnyN_take_at 5 114 (v := ?_) rfl rfl (by kernel_rfl) (by kernel_rfl) (by kernel_rfl) (by kernel_rfl) (by kernel_rfl) (fun _ _ _ h => h) (by rfl) ?_ hS ?_
                        rotate_left
                        · intro w hSw; (try dsimp only at hSw); go_simp; (try with_reducible rfl)
                        simp only [Act.put, List.setIfInBounds_toArray, List.set_cons_zero, List.set_cons_succ]
                        refine wpAnyN_take_at 6 115 (v := ?_) rfl rfl (by kernel_rfl) (by kernel_rfl) (by kernel_rfl) (by kernel_rfl) (by kernel_rfl) (fun _ _ _ h => h) (by rfl) ?_ hS ?_
                        rotate_left
                        · intro w hSw; (try dsimp only at hSw); go_simp; (try with_reducible rfl)
                        simp only [Act.put, List.setIfInBounds_toArray, List.set_cons_zero, List.set_cons_succ]
                        refine wpAnyN_take_at 9 118 (v := ?_) rfl rfl (by kernel_rfl) (by kernel_rfl) (by kernel_rfl) (by kernel_rfl) (by kernel_rfl) (fun _ _ _ h => h) (by rfl) ?_ hS ?_
                        rotate_left
                        · intro w hSw; (try dsimp only at hSw); go_simp; (try with_reducible rfl)
                        simp only [Act.put, List.setIfInBounds_toArray, List.set_cons_zero, List.set_cons_succ]
                        refine wpAnyN_take_at 10 119 (v := ?_) rfl rfl (by kernel_rfl) (by kernel_rfl) (by kernel_rfl) (by kernel_rfl) (by kernel_rfl) (fun _ _ _ h => h) (by rfl) ?_ hS ?_
                        rotate_left
                        · intro w hSw; (try dsimp only at hSw); go_simp; (try with_reducible rfl)
                        simp only [Act.put, List.setIfInBounds_toArray, List.set_cons_zero, List.set_cons_succ]
                        refine wpAnyN_one (i := 7) rfl (by kernel_rfl) (fun K hK => ?_)
                        go_simp
                        refine (c1 _).mono ?_
                        rintro e w3 ⟨rfl, rfl⟩
                        refine hK _ _ (fun _ => hS) ?_
                        clear hK
                        refine wpAnyN_take_at 8 117 (v := ?_) rfl rfl (by kernel_rfl) (by kernel_rfl) (by kernel_rfl) (by kernel_rfl) (by kernel_rfl) (fun _ _ _ h => h) (by rfl) ?_ hS ?_
                        rotate_left
                        · intro w hSw; (try dsimp only at hSw); go_simp; (try with_reducible rfl)
                        simp only [Act.put, List.setIfInBounds_toArray, List.set_cons_zero, List.set_cons_succ]
                        clear hS
                        refine wpAnyN_rest 11 [_, _] rfl (by kernel_rfl) (by kernel_rfl) ?_
                        go_wp2_with (simp only [hor])
                        go_roundw
                        case rel =>
                          refine ⟨j + 1, by go_num, by omega, ?_, (below_drewN' HB.out 1).setCell (Nat.le_refl _) _⟩
                          exact HL.out.heap rfl
                        case measure => simp [intOf]; omega
                    · obtain rfl : j = by' := by omega
                      have HL := Lib.hid (hm.eq (dn' := dn5 j (leqS j ps) (a + 1) 0) (fun _ => rfl) (fun x => dn5_next j (leqS j ps) a x))
                      clear hm hbw
                      go_wp2
                      go_roundw
                      case rel => exact ⟨a + 1, by go_num, by omega, HL.out, HB.out⟩
                      case measure => simp [intOf]; omega
                · obtain rfl : a = by' := by omega
                  have HL := Lib.hid (hm.eq (dn' := upF a (flipR (leqS a ps))) (fun _ => rfl) (fun x => dn5_end a (leqS a ps) x))
                  clear hm hbw
                  go_wp2
                  go_end0
                  exact ⟨rfl, HL.out, HB.out⟩

end Go.Proofs.YtmmdjbbbjlkmoaaDoor
