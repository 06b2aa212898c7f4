/-
  LatticeBad: the law's walk.
-/
import Derived.Test.YtmmdjbbbjlkmoaaDoorLatM
namespace Go.Proofs.YtmmdjbbbjlkmoaaDoor
open Go.RowKit
set_option linter.unusedSimpArgs false
set_option linter.unusedVariables false

theorem leq_nil (n : Nat) : SameR n (leqS n []) (fun a b => decide (a = b)) :=
  sameR_of (fun a b m _ _ _ h1 h2 => by simp at h1 h2 ⊢; omega) (fun a b _ _ h => by simpa [baseR] using h) (fun a b _ _ h => by simp at h; subst h; exact leqS_refl _ _ _)
theorem err_nil {n : Nat} (h2 : 2 ≤ n) (h64 : n ≤ 64) : errS n [] = 1 := by
  unfold errS
  rw [if_neg (by omega), if_neg (by simp), if_neg]
  intro hs
  have h := (leq_nil n).sound hs
  obtain ⟨x, _, hx⟩ := joinR_some (h.2.1 0 (by omega) 1 (by omega))
  have h1 := hx.2.1
  have h3 := hx.2.2.1
  simp at h1 h3
  omega
theorem err_both {n a b : Nat} (h2 : 2 ≤ n) (h64 : n ≤ 64) (ha : a < n) (hb : b < n) (hab : a ≠ b) : errS n [((a : Int), (b : Int)), ((b : Int), (a : Int))] = 1 := by
  unfold errS
  rw [if_neg (by omega), if_neg (by simp [okPair]; omega), if_neg]
  intro hs
  refine hab (hs.1 a ha b hb (warN_base _ _ _ _ ?_) (warN_base _ _ _ _ ?_)) <;> simp [baseR]
theorem err_past {n : Nat} (a : Int) (h2 : 2 ≤ n) (h64 : n ≤ 64) : errS n [(a, (n : Int))] = 6 := by
  unfold errS
  rw [if_neg (by omega), if_pos (by simp [okPair])]

set_option maxRecDepth 100000 in
set_option maxHeartbeats 2000000 in
theorem latticeBad_walk (w : World) (hT : TabIs w) (a0 : Int) (w0 : (Lit.int .i64 a0).wf = true) (a1 : Int) (w1 : (Lit.int .i64 a1).wf = true) (a2 : Int) (w2 : (Lit.int .i64 a2).wf = true) :
    Calls Tryd.prog 7 #[.int .i64 a0, .int .i64 a1, .int .i64 a2] w fun e w' => e = .returned (.bool true) ∧ Below w.heap.size w w' := by
  have ca := alive5_any w hT
  by_cases hbad : a0 < 2 ∨ (2 ≤ a0 ∧ 20 < a0) ∨ (2 ≤ a0 ∧ a0 ≤ 20 ∧ a1 < 0) ∨ (2 ≤ a0 ∧ a0 ≤ 20 ∧ 0 ≤ a1 ∧ a2 < 0) ∨ (2 ≤ a0 ∧ a0 ≤ 20 ∧ 0 ≤ a1 ∧ 0 ≤ a2 ∧ a0 ≤ a1) ∨ (2 ≤ a0 ∧ a0 ≤ 20 ∧ 0 ≤ a1 ∧ 0 ≤ a2 ∧ a1 < a0 ∧ a0 ≤ a2) ∨ (2 ≤ a0 ∧ a0 ≤ 20 ∧ 0 ≤ a1 ∧ 0 ≤ a2 ∧ a1 < a0 ∧ a2 < a0 ∧ a1 = a2)
  · rcases hbad with h | ⟨h, h'⟩ | ⟨h, h', h2⟩ | ⟨h, h', h2, h3⟩ | ⟨h, h', h2, h3, h4⟩ | ⟨h, h', h2, h3, h4, h5⟩ | ⟨h, h', h2, h3, h4, h5, rfl⟩
    all_goals
      clear w0 w1 w2 hT
      go_enter Tryd.func7, Tryd.ntmps7
      go_wp2_with fail
      refine ca.mono ?_
      rintro e w3 ⟨rfl, b3⟩
      go_wp2
      go_ret
      exact ⟨rfl, b3⟩
  · obtain ⟨n, rfl⟩ : ∃ n : Nat, a0 = n := ⟨a0.toNat, by omega⟩
    obtain ⟨a, rfl⟩ : ∃ n : Nat, a1 = n := ⟨a1.toNat, by omega⟩
    obtain ⟨b, rfl⟩ : ∃ n : Nat, a2 = n := ⟨a2.toNat, by omega⟩
    have h2 : 2 ≤ n := by omega
    have h20 : n ≤ 20 := by omega
    have ha : a < n := by omega
    have hb : b < n := by omega
    have hab : a ≠ b := by omega
    clear hbad w0 w1 w2
    have i1 : ((2 : Int) ≤ n) := by omega
    have i2 : ((n : Int) ≤ 20) := by omega
    have i3 : ((a : Int) < n) := by omega
    have i4 : ((b : Int) < n) := by omega
    have i5 : ((a : Int) == b) = false := by simp; omega
    have c1 := fun A ca w1 h hp => new_err A ca n 1 [((a : Int), (b : Int)), ((b : Int), (a : Int))] w1 h hp (err_both h2 (by omega) ha hb hab) (by decide)
    have c2 := fun w1 h => new_err none 0 n 1 [] w1 h (pairs_nil w1) (err_nil h2 (by omega)) (by decide)
    have c3 := fun A ca w1 h hp => new_err A ca n 6 [((a : Int), (n : Int))] w1 h hp (err_past a h2 (by omega)) (by decide)
    go_enter Tryd.func7, Tryd.ntmps7
    go_wp2_with fail
    refine ca.mono ?_
    rintro e w3 ⟨rfl, b3⟩
    have hT3 := hT.below b3
    go_wp2_with fail
    have bx := b3.then ((Below.refl _ w3).alloc (Nat.le_refl _) (.cells (prCells [((a : Int), (b : Int)), ((b : Int), (a : Int))]).toArray 43))
    have hTx := hT.below bx
    refine (c1 _ 2 _ hTx (pairs_lit w3 _ 43 (by simp [maxLen]))).mono ?_
    rintro e w4 ⟨rfl, b4⟩
    have hT4 := hTx.below b4
    have B4 := Lib.hid (bx.then b4)
    clear bx hTx b4 b3 hT3 c1 ca
    go_wp2_with fail
    refine (c2 _ hT4).mono ?_
    rintro e w5 ⟨rfl, b5⟩
    have B5 := Lib.hid (B4.out.then b5)
    have hTy := (hT4.below b5).below ((Below.refl _ w5).alloc (Nat.le_refl _) (.cells (prCells [((a : Int), (n : Int))]).toArray 43))
    clear hT4 b5 c2
    go_wp2_with fail
    refine (c3 _ 1 _ hTy (pairs_lit w5 _ 43 (by simp [maxLen]))).mono ?_
    rintro e w6 ⟨rfl, b6⟩
    go_wp2
    go_ret
    exact ⟨rfl, (B5.out.then ((Below.refl _ w5).alloc (Nat.le_refl _) _)).then b6⟩

end Go.Proofs.YtmmdjbbbjlkmoaaDoor
