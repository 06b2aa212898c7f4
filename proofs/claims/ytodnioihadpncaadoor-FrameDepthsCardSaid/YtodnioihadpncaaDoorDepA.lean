/-
  FrameDepths: the law's walk.
-/
import Derived.Test.YtodnioihadpncaaDoorFrmK
import Derived.Test.YtodnioihadpncaaDoorRegT
namespace Go.Proofs.YtodnioihadpncaaDoor
open Go.RowKit
set_option linter.unusedSimpArgs false
set_option linter.unusedVariables false
set_option maxRecDepth 100000

def DpRel (ps : List Prt) (w : World) (n i : Value) (wr : World) : Prop := ∃ k nd : Nat, i = .int .i64 k ∧ n = .int .i64 (numOf (ps.take k)) ∧ k ≤ ps.length ∧ wr = w.drewN nd
/-- What is so of a part, and of the one ahead of it. -/
theorem dep_first {ps : List Prt} (h : rightP ps = true) {p : Prt} (hp : ps[0]? = some p) : p.depth = 0 ∧ (p.dv = true → p.ls.length = 0) ∧ (p.dv = false → 0 < p.ls.length) := by
  have h1 := rightF_at ps none 0 h 0 p hp
  refine ⟨by have := h1.2; simpa [rightDepth] using this, fun hd => ?_, fun hd => ?_⟩
  · have := h1.1; unfold rightPart at this; rw [hd] at this; simp at this; simp [this.1.1]
  · have := h1.1; unfold rightPart at this; rw [hd] at this; simp at this; exact List.length_pos_iff.2 this.1.1.1
theorem dep_next {ps : List Prt} (h : rightP ps = true) {k : Nat} {p q : Prt} (hp : ps[k + 1]? = some p) (hq : ps[k]? = some q) :
    0 ≤ p.depth ∧ p.depth ≤ q.depth + 1 ∧ (p.dv = false → q.dv = false → p.depth ≠ q.depth) ∧ (p.dv = true → p.ls.length = 0) ∧ (p.dv = false → 0 < p.ls.length) := by
  have h1 := rightF_at ps none 0 h (k + 1) p hp
  have h2 := h1.2
  rw [if_neg (by omega), Nat.add_sub_cancel, hq] at h2
  simp only [rightDepth, Bool.and_eq_true, decide_eq_true_eq] at h2
  have h3 : p.depth ≤ if q.dv then q.depth + 1 else if p.dv then q.depth else q.depth - 1 := h2.2
  refine ⟨h2.1, ?_, fun a b => ?_, fun hd => ?_, fun hd => ?_⟩
  · split at h3
    · omega
    · split at h3 <;> omega
  · rw [a, b] at h3; simp at h3; omega
  · have := h1.1; unfold rightPart at this; rw [hd] at this; simp at this; simp [this.1.1]
  · have := h1.1; unfold rightPart at this; rw [hd] at this; simp at this; exact List.length_pos_iff.2 this.1.1.1

set_option maxHeartbeats 16000000 in
theorem frameDepths_short (w : World) (hml : MaxL w) (A : Option Addr) (c : Nat) (ls : List Txt) (r0 : RowOf w A c (strs ls)) (hpl : plainL ls = true) (zl : ∀ y ∈ ls, y.length ≤ 9223372036854775807) :
    Calls Tryd.prog 7 #[.slice A ls.length c] w fun e w' => e = .returned (.bool true) ∧ Below w.heap.size w w' := by
  obtain ⟨hlf, h60, h100⟩ := plain_lf hpl
  have cp := plain_any A c ls w r0 zl
  rw [hpl] at cp
  have cq := fun w1 hr => parse_any A c ls w1 hr (by omega) (fun y hy => by have := h100 y hy; omega)
  have hR := (parse_right ls hlf).1
  have hN := num_all ls hlf
  generalize parseL ls = ps at *
  have HR := Lib.hid hR
  have HN := Lib.hid hN
  have HQ := Lib.hid cq
  have HML := Lib.hid hml
  clear hml hlf h100 zl hpl hR hN cq
  go_enter Tryd.func7, Tryd.ntmps7
  go_wp2_with fail
  refine cp.mono ?_
  rintro e w0 ⟨rfl, rfl⟩
  go_wp2_with fail
  refine (alive6_any _ HML.out).mono ?_
  rintro e w1 ⟨rfl, b1⟩
  have r1 := r0.below b1
  go_wp2_with fail
  refine (HQ.out w1 r1).mono ?_
  rintro e w2 ⟨v, X, rfl, hO, hX, b2⟩
  have HB := Lib.hid (b1.then b2)
  have hXl : X.length = ps.length := by have := congrArg List.length hX; simpa using this
  obtain ⟨A2, cap, e2, hat⟩ := hO.at
  rw [hXl] at e2
  subst e2
  have hnc := hat.le
  have hcm := hat.cap
  rw [hXl] at hnc
  unfold maxLen at hcm
  have hcell : ∀ k p, ps[k]? = some p → ∃ b off lv, A2 = some ⟨b, off, none⟩ ∧ w2.cell? ⟨b, off + k * 5, none⟩ = some (.int .i64 p.depth) ∧ w2.cell? ⟨b, off + k * 5 + 1, none⟩ = some (.bool p.dv) ∧ w2.cell? ⟨b, off + k * 5 + 3, none⟩ = some (.bool p.opn) ∧
      w2.cell? ⟨b, off + k * 5 + 4, none⟩ = some lv ∧ ∃ A3 c3, lv = .slice A3 p.ls.length c3 := by
    intro k p hp
    have hk : k < X.length := by rw [hXl]; exact (List.getElem?_eq_some_iff.1 hp).1
    obtain ⟨b, off, e, _, x0, x1, x2, x3, x4⟩ := hat.at hk
    have hpx : X[k].1 = p := by
      rw [← hX, List.getElem?_map, List.getElem?_eq_getElem hk] at hp
      simpa using hp
    rw [hpx] at x0 x1 x3
    obtain ⟨A3, c3, e3, _⟩ := hat.ls X[k] (List.getElem_mem hk)
    rw [hpx] at e3
    exact ⟨b, off, X[k].2, e, x0, x1, x3, x4, A3, c3, e3⟩
  have HC := Lib.hid hcell
  clear hO hX hXl hat hcell b2
  go_wp2_with fail
  go_loopw [4, 18] (fun n i wr => DpRel ps w2 n i wr) (fun _ i _ => ps.length - (intOf i).toNat)
  case atStart => exact ⟨0, 0, rfl, rfl, Nat.zero_le _, rfl⟩
  case round =>
    obtain ⟨k, nd, rfl, rfl, hk, rfl⟩ := hrel
    by_cases hp : k < ps.length
    · have HP := Lib.hid hp
      have hnt := num_take ps k hp
      have hnl := num_le ps (k + 1)
      rw [HN.out] at hnl
      have hpk : ps[k]? = some ps[k] := List.getElem?_eq_getElem hp
      obtain ⟨b, off, lv, rfl, x0, x1, x3, x4, A3, c3, rfl⟩ := HC.out k _ hpk
      have hdl := depth_le HR.out k _ hpk
      rcases Nat.eq_zero_or_pos k with hk0 | hk0
      · subst hk0
        obtain ⟨hd0, hl1, hl2⟩ := dep_first HR.out hpk
        rw [hd0] at x0
        simp only [Nat.zero_mul, Nat.add_zero] at x0 x1 x3 x4
        rw [show numP ps[0] = ps[0].ls.length + if ps[0].dv then (if ps[0].opn then 1 else 2) else 0 from rfl] at hnt
        clear hdl hd0
        generalize ps[0].ls.length = L at *
        generalize ps[0].opn = opn at *
        generalize ps[0].dv = dv at *
        have hb1 : numOf (ps.take 0) ≤ 60 := by omega
        have hb2 : L ≤ 60 := by omega
        cases hdv : dv with
        | false =>
          rw [hdv] at x1 hnt
          have hL := hl2 hdv
          have fL : decide ((0 : Int) < L) = true := by simp; omega
          simp only [Bool.false_eq_true, if_false, Nat.add_zero] at hnt
          have HNT := Lib.hid hnt
          clear hnt hdv hl1 hl2 hnl
          go_wp2_with fail
          have hS : (w2.drewN nd).drew.cell? ⟨b, off, none⟩ = some (.int .i64 0) ∧ (w2.drewN nd).drew.cell? ⟨b, off + 1, none⟩ = some (.bool false) ∧ (w2.drewN nd).drew.cell? ⟨b, off + 4, none⟩ = some (.slice A3 L c3) := ⟨x0, x1, x4⟩
          refine wp_region_T (n := 75) (fun W => W.cell? ⟨b, off, none⟩ = some (.int .i64 0) ∧ W.cell? ⟨b, off + 1, none⟩ = some (.bool false) ∧ W.cell? ⟨b, off + 4, none⟩ = some (.slice A3 L c3)) (by kernel_rfl) (by kernel_rfl) ?_
          intro hT
          as_aux_lemma =>
           refine wpAnyN_take_in 75 0 1 21 (v := ?_) hT rfl (by decide) rfl rfl (fun _ _ _ h => h) (by rfl) ?_ hS ?_
           rotate_left
           · intro w hSw; (try dsimp only at hSw); obtain ⟨s1, s2, s3⟩ := hSw; go_simp; (try with_reducible rfl)
           simp only [Act.put, List.setIfInBounds_toArray]; dsimp only [List.set_cons_zero, List.set_cons_succ]
           refine wpAnyN_take_in 75 1 2 22 (v := ?_) hT rfl (by decide) rfl rfl (fun _ _ _ h => h) (by rfl) ?_ hS ?_
           rotate_left
           · intro w hSw; (try dsimp only at hSw); obtain ⟨s1, s2, s3⟩ := hSw; go_simp; (try with_reducible rfl)
           simp only [Act.put, List.setIfInBounds_toArray]; dsimp only [List.set_cons_zero, List.set_cons_succ]
           refine wpAnyN_take_in 75 2 3 23 (v := ?_) hT rfl (by decide) rfl rfl (fun _ _ _ h => h) (by rfl) ?_ hS ?_
           rotate_left
           · intro w hSw; (try dsimp only at hSw); obtain ⟨s1, s2, s3⟩ := hSw; go_simp; (try with_reducible rfl)
           simp only [Act.put, List.setIfInBounds_toArray]; dsimp only [List.set_cons_zero, List.set_cons_succ]
           refine wpAnyN_take_in 75 3 4 24 (v := ?_) hT rfl (by decide) rfl rfl (fun _ _ _ h => h) (by rfl) ?_ hS ?_
           rotate_left
           · intro w hSw; (try dsimp only at hSw); obtain ⟨s1, s2, s3⟩ := hSw; go_simp; (try with_reducible rfl)
           simp only [Act.put, List.setIfInBounds_toArray]; dsimp only [List.set_cons_zero, List.set_cons_succ]
           refine wpAnyN_take_in 75 4 5 25 (v := ?_) hT rfl (by decide) rfl rfl (fun _ _ _ h => h) (by rfl) ?_ hS ?_
           rotate_left
           · intro w hSw; (try dsimp only at hSw); obtain ⟨s1, s2, s3⟩ := hSw; go_simp; (try with_reducible rfl)
           simp only [Act.put, List.setIfInBounds_toArray]; dsimp only [List.set_cons_zero, List.set_cons_succ]
           refine wpAnyN_take_in 75 5 6 26 (v := ?_) hT rfl (by decide) rfl rfl (fun _ _ _ h => h) (by rfl) ?_ hS ?_
           rotate_left
           · intro w hSw; (try dsimp only at hSw); obtain ⟨s1, s2, s3⟩ := hSw; go_simp; (try with_reducible rfl)
           simp only [Act.put, List.setIfInBounds_toArray]; dsimp only [List.set_cons_zero, List.set_cons_succ]
           refine wpAnyN_take_in 75 6 7 27 (v := ?_) hT rfl (by decide) rfl rfl (fun _ _ _ h => h) (by rfl) ?_ hS ?_
           rotate_left
           · intro w hSw; (try dsimp only at hSw); obtain ⟨s1, s2, s3⟩ := hSw; go_simp; (try with_reducible rfl)
           simp only [Act.put, List.setIfInBounds_toArray]; dsimp only [List.set_cons_zero, List.set_cons_succ]
           refine wpAnyN_take_in 75 7 8 28 (v := ?_) hT rfl (by decide) rfl rfl (fun _ _ _ h => h) (by rfl) ?_ hS ?_
           rotate_left
           · intro w hSw; (try dsimp only at hSw); obtain ⟨s1, s2, s3⟩ := hSw; go_simp; (try with_reducible rfl)
           simp only [Act.put, List.setIfInBounds_toArray]; dsimp only [List.set_cons_zero, List.set_cons_succ]
           refine wpAnyN_take_in 75 8 9 29 (v := ?_) hT rfl (by decide) rfl rfl (fun _ _ _ h => h) (by rfl) ?_ hS ?_
           rotate_left
           · intro w hSw; (try dsimp only at hSw); obtain ⟨s1, s2, s3⟩ := hSw; go_simp; (try with_reducible rfl)
           simp only [Act.put, List.setIfInBounds_toArray]; dsimp only [List.set_cons_zero, List.set_cons_succ]
           refine wpAnyN_take_in 75 9 10 30 (v := ?_) hT rfl (by decide) rfl rfl (fun _ _ _ h => h) (by rfl) ?_ hS ?_
           rotate_left
           · intro w hSw; (try dsimp only at hSw); obtain ⟨s1, s2, s3⟩ := hSw; go_simp; (try with_reducible rfl)
           simp only [Act.put, List.setIfInBounds_toArray]; dsimp only [List.set_cons_zero, List.set_cons_succ]
           refine wpAnyN_take_in 75 10 11 31 (v := ?_) hT rfl (by decide) rfl rfl (fun _ _ _ h => h) (by rfl) ?_ hS ?_
           rotate_left
           · intro w hSw; (try dsimp only at hSw); obtain ⟨s1, s2, s3⟩ := hSw; go_simp; (try with_reducible rfl)
           simp only [Act.put, List.setIfInBounds_toArray]; dsimp only [List.set_cons_zero, List.set_cons_succ]
           refine wpAnyN_take_in 75 11 12 32 (v := ?_) hT rfl (by decide) rfl rfl (fun _ _ _ h => h) (by rfl) ?_ hS ?_
           rotate_left
           · intro w hSw; (try dsimp only at hSw); obtain ⟨s1, s2, s3⟩ := hSw; go_simp; (try with_reducible rfl)
           simp only [Act.put, List.setIfInBounds_toArray]; dsimp only [List.set_cons_zero, List.set_cons_succ]
           as_aux_lemma =>
            refine wpAnyN_take_in 75 12 13 33 (v := ?_) hT rfl (by decide) rfl rfl (fun _ _ _ h => h) (by rfl) ?_ hS ?_
            rotate_left
            · intro w hSw; (try dsimp only at hSw); obtain ⟨s1, s2, s3⟩ := hSw; go_simp; (try with_reducible rfl)
            simp only [Act.put, List.setIfInBounds_toArray]; dsimp only [List.set_cons_zero, List.set_cons_succ]
            refine wpAnyN_take_in 75 13 14 34 (v := ?_) hT rfl (by decide) rfl rfl (fun _ _ _ h => h) (by rfl) ?_ hS ?_
            rotate_left
            · intro w hSw; (try dsimp only at hSw); obtain ⟨s1, s2, s3⟩ := hSw; go_simp; (try with_reducible rfl)
            simp only [Act.put, List.setIfInBounds_toArray]; dsimp only [List.set_cons_zero, List.set_cons_succ]
            refine wpAnyN_take_in 75 14 15 35 (v := ?_) hT rfl (by decide) rfl rfl (fun _ _ _ h => h) (by rfl) ?_ hS ?_
            rotate_left
            · intro w hSw; (try dsimp only at hSw); obtain ⟨s1, s2, s3⟩ := hSw; go_simp; (try with_reducible rfl)
            simp only [Act.put, List.setIfInBounds_toArray]; dsimp only [List.set_cons_zero, List.set_cons_succ]
            refine wpAnyN_take_in 75 15 16 36 (v := ?_) hT rfl (by decide) rfl rfl (fun _ _ _ h => h) (by rfl) ?_ hS ?_
            rotate_left
            · intro w hSw; (try dsimp only at hSw); obtain ⟨s1, s2, s3⟩ := hSw; go_simp; (try with_reducible rfl)
            simp only [Act.put, List.setIfInBounds_toArray]; dsimp only [List.set_cons_zero, List.set_cons_succ]
            refine wpAnyN_take_in 75 16 17 37 (v := ?_) hT rfl (by decide) rfl rfl (fun _ _ _ h => h) (by rfl) ?_ hS ?_
            rotate_left
            · intro w hSw; (try dsimp only at hSw); obtain ⟨s1, s2, s3⟩ := hSw; go_simp; (try with_reducible rfl)
            simp only [Act.put, List.setIfInBounds_toArray]; dsimp only [List.set_cons_zero, List.set_cons_succ]
            refine wpAnyN_take_in 75 17 18 38 (v := ?_) hT rfl (by decide) rfl rfl (fun _ _ _ h => h) (by rfl) ?_ hS ?_
            rotate_left
            · intro w hSw; (try dsimp only at hSw); obtain ⟨s1, s2, s3⟩ := hSw; go_simp; (try with_reducible rfl)
            simp only [Act.put, List.setIfInBounds_toArray]; dsimp only [List.set_cons_zero, List.set_cons_succ]
            refine wpAnyN_take_in 75 18 19 39 (v := ?_) hT rfl (by decide) rfl rfl (fun _ _ _ h => h) (by rfl) ?_ hS ?_
            rotate_left
            · intro w hSw; (try dsimp only at hSw); obtain ⟨s1, s2, s3⟩ := hSw; go_simp; (try with_reducible rfl)
            simp only [Act.put, List.setIfInBounds_toArray]; dsimp only [List.set_cons_zero, List.set_cons_succ]
            refine wpAnyN_take_in 75 19 20 40 (v := ?_) hT rfl (by decide) rfl rfl (fun _ _ _ h => h) (by rfl) ?_ hS ?_
            rotate_left
            · intro w hSw; (try dsimp only at hSw); obtain ⟨s1, s2, s3⟩ := hSw; go_simp; (try with_reducible rfl)
            simp only [Act.put, List.setIfInBounds_toArray]; dsimp only [List.set_cons_zero, List.set_cons_succ]
            refine wpAnyN_take_in 75 20 21 41 (v := ?_) hT rfl (by decide) rfl rfl (fun _ _ _ h => h) (by rfl) ?_ hS ?_
            rotate_left
            · intro w hSw; (try dsimp only at hSw); obtain ⟨s1, s2, s3⟩ := hSw; go_simp; (try with_reducible rfl)
            simp only [Act.put, List.setIfInBounds_toArray]; dsimp only [List.set_cons_zero, List.set_cons_succ]
            refine wpAnyN_take_in 75 21 22 42 (v := ?_) hT rfl (by decide) rfl rfl (fun _ _ _ h => h) (by rfl) ?_ hS ?_
            rotate_left
            · intro w hSw; (try dsimp only at hSw); obtain ⟨s1, s2, s3⟩ := hSw; go_simp; (try with_reducible rfl)
            simp only [Act.put, List.setIfInBounds_toArray]; dsimp only [List.set_cons_zero, List.set_cons_succ]
            refine wpAnyN_take_in 75 22 23 43 (v := ?_) hT rfl (by decide) rfl rfl (fun _ _ _ h => h) (by rfl) ?_ hS ?_
            rotate_left
            · intro w hSw; (try dsimp only at hSw); obtain ⟨s1, s2, s3⟩ := hSw; go_simp; (try with_reducible rfl)
            simp only [Act.put, List.setIfInBounds_toArray]; dsimp only [List.set_cons_zero, List.set_cons_succ]
            refine wpAnyN_take_in 75 23 24 44 (v := ?_) hT rfl (by decide) rfl rfl (fun _ _ _ h => h) (by rfl) ?_ hS ?_
            rotate_left
            · intro w hSw; (try dsimp only at hSw); obtain ⟨s1, s2, s3⟩ := hSw; go_simp; (try with_reducible rfl)
            simp only [Act.put, List.setIfInBounds_toArray]; dsimp only [List.set_cons_zero, List.set_cons_succ]
            as_aux_lemma =>
             refine wpAnyN_take_in 75 24 25 45 (v := ?_) hT rfl (by decide) rfl rfl (fun _ _ _ h => h) (by rfl) ?_ hS ?_
             rotate_left
             · intro w hSw; (try dsimp only at hSw); obtain ⟨s1, s2, s3⟩ := hSw; go_simp; (try with_reducible rfl)
             simp only [Act.put, List.setIfInBounds_toArray]; dsimp only [List.set_cons_zero, List.set_cons_succ]
             refine wpAnyN_take_inno 75 25 26 46 hT rfl (by decide) rfl rfl (fun _ _ _ h => h) (by rfl) hS ?_
             simp only [Act.put, List.setIfInBounds_toArray]; dsimp only [List.set_cons_zero, List.set_cons_succ]
             refine wpAnyN_take_inno 75 26 27 47 hT rfl (by decide) rfl rfl (fun _ _ _ h => h) (by rfl) hS ?_
             simp only [Act.put, List.setIfInBounds_toArray]; dsimp only [List.set_cons_zero, List.set_cons_succ]
             refine wpAnyN_take_inno 75 27 28 48 hT rfl (by decide) rfl rfl (fun _ _ _ h => h) (by rfl) hS ?_
             simp only [Act.put, List.setIfInBounds_toArray]; dsimp only [List.set_cons_zero, List.set_cons_succ]
             refine wpAnyN_take_inno 75 28 29 49 hT rfl (by decide) rfl rfl (fun _ _ _ h => h) (by rfl) hS ?_
             simp only [Act.put, List.setIfInBounds_toArray]; dsimp only [List.set_cons_zero, List.set_cons_succ]
             refine wpAnyN_take_inno 75 29 30 50 hT rfl (by decide) rfl rfl (fun _ _ _ h => h) (by rfl) hS ?_
             simp only [Act.put, List.setIfInBounds_toArray]; dsimp only [List.set_cons_zero, List.set_cons_succ]
             refine wpAnyN_take_inno 75 30 31 51 hT rfl (by decide) rfl rfl (fun _ _ _ h => h) (by rfl) hS ?_
             simp only [Act.put, List.setIfInBounds_toArray]; dsimp only [List.set_cons_zero, List.set_cons_succ]
             refine wpAnyN_take_inno 75 31 32 52 hT rfl (by decide) rfl rfl (fun _ _ _ h => h) (by rfl) hS ?_
             simp only [Act.put, List.setIfInBounds_toArray]; dsimp only [List.set_cons_zero, List.set_cons_succ]
             refine wpAnyN_take_inno 75 32 33 53 hT rfl (by decide) rfl rfl (fun _ _ _ h => h) (by rfl) hS ?_
             simp only [Act.put, List.setIfInBounds_toArray]; dsimp only [List.set_cons_zero, List.set_cons_succ]
             refine wpAnyN_take_inno 75 33 34 54 hT rfl (by decide) rfl rfl (fun _ _ _ h => h) (by rfl) hS ?_
             simp only [Act.put, List.setIfInBounds_toArray]; dsimp only [List.set_cons_zero, List.set_cons_succ]
             refine wpAnyN_take_inno 75 34 35 55 hT rfl (by decide) rfl rfl (fun _ _ _ h => h) (by rfl) hS ?_
             simp only [Act.put, List.setIfInBounds_toArray]; dsimp only [List.set_cons_zero, List.set_cons_succ]
             refine wpAnyN_take_inno 75 35 36 56 hT rfl (by decide) rfl rfl (fun _ _ _ h => h) (by rfl) hS ?_
             simp only [Act.put, List.setIfInBounds_toArray]; dsimp only [List.set_cons_zero, List.set_cons_succ]
             as_aux_lemma =>
              refine wpAnyN_take_inno 75 36 37 57 hT rfl (by decide) rfl rfl (fun _ _ _ h => h) (by rfl) hS ?_
              simp only [Act.put, List.setIfInBounds_toArray]; dsimp only [List.set_cons_zero, List.set_cons_succ]
              refine wpAnyN_take_inno 75 37 38 58 hT rfl (by decide) rfl rfl (fun _ _ _ h => h) (by rfl) hS ?_
              simp only [Act.put, List.setIfInBounds_toArray]; dsimp only [List.set_cons_zero, List.set_cons_succ]
              refine wpAnyN_take_in 75 38 39 59 (v := ?_) hT rfl (by decide) rfl rfl (fun _ _ _ h => h) (by rfl) ?_ hS ?_
              rotate_left
              · intro w hSw; (try dsimp only at hSw); obtain ⟨s1, s2, s3⟩ := hSw; go_simp; (try with_reducible rfl)
              simp only [Act.put, List.setIfInBounds_toArray]; dsimp only [List.set_cons_zero, List.set_cons_succ]
              refine wpAnyN_take_in 75 39 40 60 (v := ?_) hT rfl (by decide) rfl rfl (fun _ _ _ h => h) (by rfl) ?_ hS ?_
              rotate_left
              · intro w hSw; (try dsimp only at hSw); obtain ⟨s1, s2, s3⟩ := hSw; go_simp; (try with_reducible rfl)
              simp only [Act.put, List.setIfInBounds_toArray]; dsimp only [List.set_cons_zero, List.set_cons_succ]
              refine wpAnyN_take_in 75 40 41 61 (v := ?_) hT rfl (by decide) rfl rfl (fun _ _ _ h => h) (by rfl) ?_ hS ?_
              rotate_left
              · intro w hSw; (try dsimp only at hSw); obtain ⟨s1, s2, s3⟩ := hSw; go_simp; (try with_reducible rfl)
              simp only [Act.put, List.setIfInBounds_toArray]; dsimp only [List.set_cons_zero, List.set_cons_succ]
              refine wpAnyN_take_in 75 41 42 62 (v := ?_) hT rfl (by decide) rfl rfl (fun _ _ _ h => h) (by rfl) ?_ hS ?_
              rotate_left
              · intro w hSw; (try dsimp only at hSw); obtain ⟨s1, s2, s3⟩ := hSw; go_simp; (try with_reducible rfl)
              simp only [Act.put, List.setIfInBounds_toArray]; dsimp only [List.set_cons_zero, List.set_cons_succ]
              refine wpAnyN_take_in 75 42 43 63 (v := ?_) hT rfl (by decide) rfl rfl (fun _ _ _ h => h) (by rfl) ?_ hS ?_
              rotate_left
              · intro w hSw; (try dsimp only at hSw); obtain ⟨s1, s2, s3⟩ := hSw; go_simp; (try with_reducible rfl)
              simp only [Act.put, List.setIfInBounds_toArray]; dsimp only [List.set_cons_zero, List.set_cons_succ]
              refine wpAnyN_take_in 75 43 44 64 (v := ?_) hT rfl (by decide) rfl rfl (fun _ _ _ h => h) (by rfl) ?_ hS ?_
              rotate_left
              · intro w hSw; (try dsimp only at hSw); obtain ⟨s1, s2, s3⟩ := hSw; go_simp; (try with_reducible rfl)
              simp only [Act.put, List.setIfInBounds_toArray]; dsimp only [List.set_cons_zero, List.set_cons_succ]
              refine wpAnyN_take_inno 75 44 45 65 hT rfl (by decide) rfl rfl (fun _ _ _ h => h) (by rfl) hS ?_
              simp only [Act.put, List.setIfInBounds_toArray]; dsimp only [List.set_cons_zero, List.set_cons_succ]
              refine wpAnyN_take_inno 75 45 46 66 hT rfl (by decide) rfl rfl (fun _ _ _ h => h) (by rfl) hS ?_
              simp only [Act.put, List.setIfInBounds_toArray]; dsimp only [List.set_cons_zero, List.set_cons_succ]
              refine wpAnyN_take_inno 75 46 47 67 hT rfl (by decide) rfl rfl (fun _ _ _ h => h) (by rfl) hS ?_
              simp only [Act.put, List.setIfInBounds_toArray]; dsimp only [List.set_cons_zero, List.set_cons_succ]
              refine wpAnyN_take_inno 75 47 48 68 hT rfl (by decide) rfl rfl (fun _ _ _ h => h) (by rfl) hS ?_
              simp only [Act.put, List.setIfInBounds_toArray]; dsimp only [List.set_cons_zero, List.set_cons_succ]
              as_aux_lemma =>
               refine wpAnyN_take_inno 75 48 49 69 hT rfl (by decide) rfl rfl (fun _ _ _ h => h) (by rfl) hS ?_
               simp only [Act.put, List.setIfInBounds_toArray]; dsimp only [List.set_cons_zero, List.set_cons_succ]
               refine wpAnyN_take_inno 75 49 50 70 hT rfl (by decide) rfl rfl (fun _ _ _ h => h) (by rfl) hS ?_
               simp only [Act.put, List.setIfInBounds_toArray]; dsimp only [List.set_cons_zero, List.set_cons_succ]
               refine wpAnyN_take_in 75 50 51 71 (v := ?_) hT rfl (by decide) rfl rfl (fun _ _ _ h => h) (by rfl) ?_ hS ?_
               rotate_left
               · intro w hSw; (try dsimp only at hSw); obtain ⟨s1, s2, s3⟩ := hSw; go_simp; (try with_reducible rfl)
               simp only [Act.put, List.setIfInBounds_toArray]; dsimp only [List.set_cons_zero, List.set_cons_succ]
               refine wpAnyN_take_in 75 51 52 72 (v := ?_) hT rfl (by decide) rfl rfl (fun _ _ _ h => h) (by rfl) ?_ hS ?_
               rotate_left
               · intro w hSw; (try dsimp only at hSw); obtain ⟨s1, s2, s3⟩ := hSw; go_simp; (try with_reducible rfl)
               simp only [Act.put, List.setIfInBounds_toArray]; dsimp only [List.set_cons_zero, List.set_cons_succ]
               refine wpAnyN_take_inno 75 52 53 73 hT rfl (by decide) rfl rfl (fun _ _ _ h => h) (by rfl) hS ?_
               simp only [Act.put, List.setIfInBounds_toArray]; dsimp only [List.set_cons_zero, List.set_cons_succ]
               refine wpAnyN_take_inno 75 53 54 74 hT rfl (by decide) rfl rfl (fun _ _ _ h => h) (by rfl) hS ?_
               simp only [Act.put, List.setIfInBounds_toArray]; dsimp only [List.set_cons_zero, List.set_cons_succ]
               refine wpAnyN_take_inno 75 54 55 75 hT rfl (by decide) rfl rfl (fun _ _ _ h => h) (by rfl) hS ?_
               simp only [Act.put, List.setIfInBounds_toArray]; dsimp only [List.set_cons_zero, List.set_cons_succ]
               refine wpAnyN_take_inno 75 55 56 76 hT rfl (by decide) rfl rfl (fun _ _ _ h => h) (by rfl) hS ?_
               simp only [Act.put, List.setIfInBounds_toArray]; dsimp only [List.set_cons_zero, List.set_cons_succ]
               refine wpAnyN_take_inno 75 56 57 77 hT rfl (by decide) rfl rfl (fun _ _ _ h => h) (by rfl) hS ?_
               simp only [Act.put, List.setIfInBounds_toArray]; dsimp only [List.set_cons_zero, List.set_cons_succ]
               refine wpAnyN_take_inno 75 57 58 78 hT rfl (by decide) rfl rfl (fun _ _ _ h => h) (by rfl) hS ?_
               simp only [Act.put, List.setIfInBounds_toArray]; dsimp only [List.set_cons_zero, List.set_cons_succ]
               refine wpAnyN_take_inno 75 58 59 79 hT rfl (by decide) rfl rfl (fun _ _ _ h => h) (by rfl) hS ?_
               simp only [Act.put, List.setIfInBounds_toArray]; dsimp only [List.set_cons_zero, List.set_cons_succ]
               refine wpAnyN_take_in 75 59 60 80 (v := ?_) hT rfl (by decide) rfl rfl (fun _ _ _ h => h) (by rfl) ?_ hS ?_
               rotate_left
               · intro w hSw; (try dsimp only at hSw); obtain ⟨s1, s2, s3⟩ := hSw; go_simp; (try with_reducible rfl)
               simp only [Act.put, List.setIfInBounds_toArray]; dsimp only [List.set_cons_zero, List.set_cons_succ]
               as_aux_lemma =>
                refine wpAnyN_take_in 75 60 61 81 (v := ?_) hT rfl (by decide) rfl rfl (fun _ _ _ h => h) (by rfl) ?_ hS ?_
                rotate_left
                · intro w hSw; (try dsimp only at hSw); obtain ⟨s1, s2, s3⟩ := hSw; go_simp; (try with_reducible rfl)
                simp only [Act.put, List.setIfInBounds_toArray]; dsimp only [List.set_cons_zero, List.set_cons_succ]
                refine wpAnyN_take_inno 75 61 62 82 hT rfl (by decide) rfl rfl (fun _ _ _ h => h) (by rfl) hS ?_
                simp only [Act.put, List.setIfInBounds_toArray]; dsimp only [List.set_cons_zero, List.set_cons_succ]
                refine wpAnyN_take_inno 75 62 63 83 hT rfl (by decide) rfl rfl (fun _ _ _ h => h) (by rfl) hS ?_
                simp only [Act.put, List.setIfInBounds_toArray]; dsimp only [List.set_cons_zero, List.set_cons_succ]
                refine wpAnyN_take_inno 75 63 64 84 hT rfl (by decide) rfl rfl (fun _ _ _ h => h) (by rfl) hS ?_
                simp only [Act.put, List.setIfInBounds_toArray]; dsimp only [List.set_cons_zero, List.set_cons_succ]
                refine wpAnyN_take_inno 75 64 65 85 hT rfl (by decide) rfl rfl (fun _ _ _ h => h) (by rfl) hS ?_
                simp only [Act.put, List.setIfInBounds_toArray]; dsimp only [List.set_cons_zero, List.set_cons_succ]
                refine wpAnyN_take_inno 75 65 66 86 hT rfl (by decide) rfl rfl (fun _ _ _ h => h) (by rfl) hS ?_
                simp only [Act.put, List.setIfInBounds_toArray]; dsimp only [List.set_cons_zero, List.set_cons_succ]
                refine wpAnyN_take_inno 75 66 67 87 hT rfl (by decide) rfl rfl (fun _ _ _ h => h) (by rfl) hS ?_
                simp only [Act.put, List.setIfInBounds_toArray]; dsimp only [List.set_cons_zero, List.set_cons_succ]
                refine wpAnyN_take_inno 75 67 68 88 hT rfl (by decide) rfl rfl (fun _ _ _ h => h) (by rfl) hS ?_
                simp only [Act.put, List.setIfInBounds_toArray]; dsimp only [List.set_cons_zero, List.set_cons_succ]
                refine wpAnyN_take_inno 75 68 69 89 hT rfl (by decide) rfl rfl (fun _ _ _ h => h) (by rfl) hS ?_
                simp only [Act.put, List.setIfInBounds_toArray]; dsimp only [List.set_cons_zero, List.set_cons_succ]
                refine wpAnyN_take_inno 75 69 70 90 hT rfl (by decide) rfl rfl (fun _ _ _ h => h) (by rfl) hS ?_
                simp only [Act.put, List.setIfInBounds_toArray]; dsimp only [List.set_cons_zero, List.set_cons_succ]
                refine wpAnyN_take_inno 75 70 71 91 hT rfl (by decide) rfl rfl (fun _ _ _ h => h) (by rfl) hS ?_
                simp only [Act.put, List.setIfInBounds_toArray]; dsimp only [List.set_cons_zero, List.set_cons_succ]
                refine wpAnyN_take_inno 75 71 72 92 hT rfl (by decide) rfl rfl (fun _ _ _ h => h) (by rfl) hS ?_
                simp only [Act.put, List.setIfInBounds_toArray]; dsimp only [List.set_cons_zero, List.set_cons_succ]
                as_aux_lemma =>
                 refine wpAnyN_take_inno 75 72 73 93 hT rfl (by decide) rfl rfl (fun _ _ _ h => h) (by rfl) hS ?_
                 simp only [Act.put, List.setIfInBounds_toArray]; dsimp only [List.set_cons_zero, List.set_cons_succ]
                 refine wpAnyN_take_in 75 73 74 94 (v := ?_) hT rfl (by decide) rfl rfl (fun _ _ _ h => h) (by rfl) ?_ hS ?_
                 rotate_left
                 · intro w hSw; (try dsimp only at hSw); obtain ⟨s1, s2, s3⟩ := hSw; go_simp; (try with_reducible rfl)
                 simp only [Act.put, List.setIfInBounds_toArray]; dsimp only [List.set_cons_zero, List.set_cons_succ]
                 refine wpAnyN_take_in 75 74 75 95 (v := ?_) hT rfl (by decide) rfl rfl (fun _ _ _ h => h) (by rfl) ?_ hS ?_
                 rotate_left
                 · intro w hSw; (try dsimp only at hSw); obtain ⟨s1, s2, s3⟩ := hSw; go_simp; (try with_reducible rfl)
                 simp only [Act.put, List.setIfInBounds_toArray]; dsimp only [List.set_cons_zero, List.set_cons_succ]
                 as_aux_lemma =>
                  refine wpAnyN_rest 75 [] rfl (by kernel_rfl) (by kernel_rfl) ?_
                  clear hS
                  go_wp2
                  go_roundw
                  case rel => exact ⟨0 + 1, _, by go_num, by rw [HNT.out, List.take_zero]; simp only [show numOf ([] : List Prt) = 0 from rfl, Nat.zero_add]; first | go_num | (simp; unfold wrap64; omega), (by have := HP.out; omega), rfl⟩
                  case measure => simp [intOf]; omega
        | true =>
          rw [hdv] at x1 hnt
          obtain rfl : L = 0 := hl1 hdv
          simp only [if_true, Nat.zero_add] at hnt
          clear hdv hl1 hl2 hnl
          go_wp2_with fail
          have hS : (w2.drewN nd).drew.cell? ⟨b, off, none⟩ = some (.int .i64 0) ∧ (w2.drewN nd).drew.cell? ⟨b, off + 1, none⟩ = some (.bool true) ∧ (w2.drewN nd).drew.cell? ⟨b, off + 4, none⟩ = some (.slice A3 0 c3) := ⟨x0, x1, x4⟩
          refine wp_region_T (n := 75) (fun W => W.cell? ⟨b, off, none⟩ = some (.int .i64 0) ∧ W.cell? ⟨b, off + 1, none⟩ = some (.bool true) ∧ W.cell? ⟨b, off + 4, none⟩ = some (.slice A3 0 c3)) (by kernel_rfl) (by kernel_rfl) ?_
          intro hT
          as_aux_lemma =>
           refine wpAnyN_take_in 75 0 1 21 (v := ?_) hT rfl (by decide) rfl rfl (fun _ _ _ h => h) (by rfl) ?_ hS ?_
           rotate_left
           · intro w hSw; (try dsimp only at hSw); obtain ⟨s1, s2, s3⟩ := hSw; go_simp; (try with_reducible rfl)
           simp only [Act.put, List.setIfInBounds_toArray]; dsimp only [List.set_cons_zero, List.set_cons_succ]
           refine wpAnyN_take_in 75 1 2 22 (v := ?_) hT rfl (by decide) rfl rfl (fun _ _ _ h => h) (by rfl) ?_ hS ?_
           rotate_left
           · intro w hSw; (try dsimp only at hSw); obtain ⟨s1, s2, s3⟩ := hSw; go_simp; (try with_reducible rfl)
           simp only [Act.put, List.setIfInBounds_toArray]; dsimp only [List.set_cons_zero, List.set_cons_succ]
           refine wpAnyN_take_in 75 2 3 23 (v := ?_) hT rfl (by decide) rfl rfl (fun _ _ _ h => h) (by rfl) ?_ hS ?_
           rotate_left
           · intro w hSw; (try dsimp only at hSw); obtain ⟨s1, s2, s3⟩ := hSw; go_simp; (try with_reducible rfl)
           simp only [Act.put, List.setIfInBounds_toArray]; dsimp only [List.set_cons_zero, List.set_cons_succ]
           refine wpAnyN_take_in 75 3 4 24 (v := ?_) hT rfl (by decide) rfl rfl (fun _ _ _ h => h) (by rfl) ?_ hS ?_
           rotate_left
           · intro w hSw; (try dsimp only at hSw); obtain ⟨s1, s2, s3⟩ := hSw; go_simp; (try with_reducible rfl)
           simp only [Act.put, List.setIfInBounds_toArray]; dsimp only [List.set_cons_zero, List.set_cons_succ]
           refine wpAnyN_take_in 75 4 5 25 (v := ?_) hT rfl (by decide) rfl rfl (fun _ _ _ h => h) (by rfl) ?_ hS ?_
           rotate_left
           · intro w hSw; (try dsimp only at hSw); obtain ⟨s1, s2, s3⟩ := hSw; go_simp; (try with_reducible rfl)
           simp only [Act.put, List.setIfInBounds_toArray]; dsimp only [List.set_cons_zero, List.set_cons_succ]
           refine wpAnyN_take_in 75 5 6 26 (v := ?_) hT rfl (by decide) rfl rfl (fun _ _ _ h => h) (by rfl) ?_ hS ?_
           rotate_left
           · intro w hSw; (try dsimp only at hSw); obtain ⟨s1, s2, s3⟩ := hSw; go_simp; (try with_reducible rfl)
           simp only [Act.put, List.setIfInBounds_toArray]; dsimp only [List.set_cons_zero, List.set_cons_succ]
           refine wpAnyN_take_in 75 6 7 27 (v := ?_) hT rfl (by decide) rfl rfl (fun _ _ _ h => h) (by rfl) ?_ hS ?_
           rotate_left
           · intro w hSw; (try dsimp only at hSw); obtain ⟨s1, s2, s3⟩ := hSw; go_simp; (try with_reducible rfl)
           simp only [Act.put, List.setIfInBounds_toArray]; dsimp only [List.set_cons_zero, List.set_cons_succ]
           refine wpAnyN_take_in 75 7 8 28 (v := ?_) hT rfl (by decide) rfl rfl (fun _ _ _ h => h) (by rfl) ?_ hS ?_
           rotate_left
           · intro w hSw; (try dsimp only at hSw); obtain ⟨s1, s2, s3⟩ := hSw; go_simp; (try with_reducible rfl)
           simp only [Act.put, List.setIfInBounds_toArray]; dsimp only [List.set_cons_zero, List.set_cons_succ]
           refine wpAnyN_take_in 75 8 9 29 (v := ?_) hT rfl (by decide) rfl rfl (fun _ _ _ h => h) (by rfl) ?_ hS ?_
           rotate_left
           · intro w hSw; (try dsimp only at hSw); obtain ⟨s1, s2, s3⟩ := hSw; go_simp; (try with_reducible rfl)
           simp only [Act.put, List.setIfInBounds_toArray]; dsimp only [List.set_cons_zero, List.set_cons_succ]
           refine wpAnyN_take_in 75 9 10 30 (v := ?_) hT rfl (by decide) rfl rfl (fun _ _ _ h => h) (by rfl) ?_ hS ?_
           rotate_left
           · intro w hSw; (try dsimp only at hSw); obtain ⟨s1, s2, s3⟩ := hSw; go_simp; (try with_reducible rfl)
           simp only [Act.put, List.setIfInBounds_toArray]; dsimp only [List.set_cons_zero, List.set_cons_succ]
           refine wpAnyN_take_in 75 10 11 31 (v := ?_) hT rfl (by decide) rfl rfl (fun _ _ _ h => h) (by rfl) ?_ hS ?_
           rotate_left
           · intro w hSw; (try dsimp only at hSw); obtain ⟨s1, s2, s3⟩ := hSw; go_simp; (try with_reducible rfl)
           simp only [Act.put, List.setIfInBounds_toArray]; dsimp only [List.set_cons_zero, List.set_cons_succ]
           refine wpAnyN_take_in 75 11 12 32 (v := ?_) hT rfl (by decide) rfl rfl (fun _ _ _ h => h) (by rfl) ?_ hS ?_
           rotate_left
           · intro w hSw; (try dsimp only at hSw); obtain ⟨s1, s2, s3⟩ := hSw; go_simp; (try with_reducible rfl)
           simp only [Act.put, List.setIfInBounds_toArray]; dsimp only [List.set_cons_zero, List.set_cons_succ]
           as_aux_lemma =>
            refine wpAnyN_take_in 75 12 13 33 (v := ?_) hT rfl (by decide) rfl rfl (fun _ _ _ h => h) (by rfl) ?_ hS ?_
            rotate_left
            · intro w hSw; (try dsimp only at hSw); obtain ⟨s1, s2, s3⟩ := hSw; go_simp; (try with_reducible rfl)
            simp only [Act.put, List.setIfInBounds_toArray]; dsimp only [List.set_cons_zero, List.set_cons_succ]
            refine wpAnyN_take_in 75 13 14 34 (v := ?_) hT rfl (by decide) rfl rfl (fun _ _ _ h => h) (by rfl) ?_ hS ?_
            rotate_left
            · intro w hSw; (try dsimp only at hSw); obtain ⟨s1, s2, s3⟩ := hSw; go_simp; (try with_reducible rfl)
            simp only [Act.put, List.setIfInBounds_toArray]; dsimp only [List.set_cons_zero, List.set_cons_succ]
            refine wpAnyN_take_in 75 14 15 35 (v := ?_) hT rfl (by decide) rfl rfl (fun _ _ _ h => h) (by rfl) ?_ hS ?_
            rotate_left
            · intro w hSw; (try dsimp only at hSw); obtain ⟨s1, s2, s3⟩ := hSw; go_simp; (try with_reducible rfl)
            simp only [Act.put, List.setIfInBounds_toArray]; dsimp only [List.set_cons_zero, List.set_cons_succ]
            refine wpAnyN_take_in 75 15 16 36 (v := ?_) hT rfl (by decide) rfl rfl (fun _ _ _ h => h) (by rfl) ?_ hS ?_
            rotate_left
            · intro w hSw; (try dsimp only at hSw); obtain ⟨s1, s2, s3⟩ := hSw; go_simp; (try with_reducible rfl)
            simp only [Act.put, List.setIfInBounds_toArray]; dsimp only [List.set_cons_zero, List.set_cons_succ]
            refine wpAnyN_take_in 75 16 17 37 (v := ?_) hT rfl (by decide) rfl rfl (fun _ _ _ h => h) (by rfl) ?_ hS ?_
            rotate_left
            · intro w hSw; (try dsimp only at hSw); obtain ⟨s1, s2, s3⟩ := hSw; go_simp; (try with_reducible rfl)
            simp only [Act.put, List.setIfInBounds_toArray]; dsimp only [List.set_cons_zero, List.set_cons_succ]
            refine wpAnyN_take_in 75 17 18 38 (v := ?_) hT rfl (by decide) rfl rfl (fun _ _ _ h => h) (by rfl) ?_ hS ?_
            rotate_left
            · intro w hSw; (try dsimp only at hSw); obtain ⟨s1, s2, s3⟩ := hSw; go_simp; (try with_reducible rfl)
            simp only [Act.put, List.setIfInBounds_toArray]; dsimp only [List.set_cons_zero, List.set_cons_succ]
            refine wpAnyN_take_in 75 18 19 39 (v := ?_) hT rfl (by decide) rfl rfl (fun _ _ _ h => h) (by rfl) ?_ hS ?_
            rotate_left
            · intro w hSw; (try dsimp only at hSw); obtain ⟨s1, s2, s3⟩ := hSw; go_simp; (try with_reducible rfl)
            simp only [Act.put, List.setIfInBounds_toArray]; dsimp only [List.set_cons_zero, List.set_cons_succ]
            refine wpAnyN_take_in 75 19 20 40 (v := ?_) hT rfl (by decide) rfl rfl (fun _ _ _ h => h) (by rfl) ?_ hS ?_
            rotate_left
            · intro w hSw; (try dsimp only at hSw); obtain ⟨s1, s2, s3⟩ := hSw; go_simp; (try with_reducible rfl)
            simp only [Act.put, List.setIfInBounds_toArray]; dsimp only [List.set_cons_zero, List.set_cons_succ]
            refine wpAnyN_take_in 75 20 21 41 (v := ?_) hT rfl (by decide) rfl rfl (fun _ _ _ h => h) (by rfl) ?_ hS ?_
            rotate_left
            · intro w hSw; (try dsimp only at hSw); obtain ⟨s1, s2, s3⟩ := hSw; go_simp; (try with_reducible rfl)
            simp only [Act.put, List.setIfInBounds_toArray]; dsimp only [List.set_cons_zero, List.set_cons_succ]
            refine wpAnyN_take_in 75 21 22 42 (v := ?_) hT rfl (by decide) rfl rfl (fun _ _ _ h => h) (by rfl) ?_ hS ?_
            rotate_left
            · intro w hSw; (try dsimp only at hSw); obtain ⟨s1, s2, s3⟩ := hSw; go_simp; (try with_reducible rfl)
            simp only [Act.put, List.setIfInBounds_toArray]; dsimp only [List.set_cons_zero, List.set_cons_succ]
            refine wpAnyN_take_in 75 22 23 43 (v := ?_) hT rfl (by decide) rfl rfl (fun _ _ _ h => h) (by rfl) ?_ hS ?_
            rotate_left
            · intro w hSw; (try dsimp only at hSw); obtain ⟨s1, s2, s3⟩ := hSw; go_simp; (try with_reducible rfl)
            simp only [Act.put, List.setIfInBounds_toArray]; dsimp only [List.set_cons_zero, List.set_cons_succ]
            refine wpAnyN_take_in 75 23 24 44 (v := ?_) hT rfl (by decide) rfl rfl (fun _ _ _ h => h) (by rfl) ?_ hS ?_
            rotate_left
            · intro w hSw; (try dsimp only at hSw); obtain ⟨s1, s2, s3⟩ := hSw; go_simp; (try with_reducible rfl)
            simp only [Act.put, List.setIfInBounds_toArray]; dsimp only [List.set_cons_zero, List.set_cons_succ]
            as_aux_lemma =>
             refine wpAnyN_take_in 75 24 25 45 (v := ?_) hT rfl (by decide) rfl rfl (fun _ _ _ h => h) (by rfl) ?_ hS ?_
             rotate_left
             · intro w hSw; (try dsimp only at hSw); obtain ⟨s1, s2, s3⟩ := hSw; go_simp; (try with_reducible rfl)
             simp only [Act.put, List.setIfInBounds_toArray]; dsimp only [List.set_cons_zero, List.set_cons_succ]
             refine wpAnyN_take_inno 75 25 26 46 hT rfl (by decide) rfl rfl (fun _ _ _ h => h) (by rfl) hS ?_
             simp only [Act.put, List.setIfInBounds_toArray]; dsimp only [List.set_cons_zero, List.set_cons_succ]
             refine wpAnyN_take_inno 75 26 27 47 hT rfl (by decide) rfl rfl (fun _ _ _ h => h) (by rfl) hS ?_
             simp only [Act.put, List.setIfInBounds_toArray]; dsimp only [List.set_cons_zero, List.set_cons_succ]
             refine wpAnyN_take_inno 75 27 28 48 hT rfl (by decide) rfl rfl (fun _ _ _ h => h) (by rfl) hS ?_
             simp only [Act.put, List.setIfInBounds_toArray]; dsimp only [List.set_cons_zero, List.set_cons_succ]
             refine wpAnyN_take_inno 75 28 29 49 hT rfl (by decide) rfl rfl (fun _ _ _ h => h) (by rfl) hS ?_
             simp only [Act.put, List.setIfInBounds_toArray]; dsimp only [List.set_cons_zero, List.set_cons_succ]
             refine wpAnyN_take_inno 75 29 30 50 hT rfl (by decide) rfl rfl (fun _ _ _ h => h) (by rfl) hS ?_
             simp only [Act.put, List.setIfInBounds_toArray]; dsimp only [List.set_cons_zero, List.set_cons_succ]
             refine wpAnyN_take_inno 75 30 31 51 hT rfl (by decide) rfl rfl (fun _ _ _ h => h) (by rfl) hS ?_
             simp only [Act.put, List.setIfInBounds_toArray]; dsimp only [List.set_cons_zero, List.set_cons_succ]
             refine wpAnyN_take_inno 75 31 32 52 hT rfl (by decide) rfl rfl (fun _ _ _ h => h) (by rfl) hS ?_
             simp only [Act.put, List.setIfInBounds_toArray]; dsimp only [List.set_cons_zero, List.set_cons_succ]
             refine wpAnyN_take_inno 75 32 33 53 hT rfl (by decide) rfl rfl (fun _ _ _ h => h) (by rfl) hS ?_
             simp only [Act.put, List.setIfInBounds_toArray]; dsimp only [List.set_cons_zero, List.set_cons_succ]
             refine wpAnyN_take_inno 75 33 34 54 hT rfl (by decide) rfl rfl (fun _ _ _ h => h) (by rfl) hS ?_
             simp only [Act.put, List.setIfInBounds_toArray]; dsimp only [List.set_cons_zero, List.set_cons_succ]
             refine wpAnyN_take_inno 75 34 35 55 hT rfl (by decide) rfl rfl (fun _ _ _ h => h) (by rfl) hS ?_
             simp only [Act.put, List.setIfInBounds_toArray]; dsimp only [List.set_cons_zero, List.set_cons_succ]
             refine wpAnyN_take_inno 75 35 36 56 hT rfl (by decide) rfl rfl (fun _ _ _ h => h) (by rfl) hS ?_
             simp only [Act.put, List.setIfInBounds_toArray]; dsimp only [List.set_cons_zero, List.set_cons_succ]
             as_aux_lemma =>
              refine wpAnyN_take_inno 75 36 37 57 hT rfl (by decide) rfl rfl (fun _ _ _ h => h) (by rfl) hS ?_
              simp only [Act.put, List.setIfInBounds_toArray]; dsimp only [List.set_cons_zero, List.set_cons_succ]
              refine wpAnyN_take_inno 75 37 38 58 hT rfl (by decide) rfl rfl (fun _ _ _ h => h) (by rfl) hS ?_
              simp only [Act.put, List.setIfInBounds_toArray]; dsimp only [List.set_cons_zero, List.set_cons_succ]
              refine wpAnyN_take_in 75 38 39 59 (v := ?_) hT rfl (by decide) rfl rfl (fun _ _ _ h => h) (by rfl) ?_ hS ?_
              rotate_left
              · intro w hSw; (try dsimp only at hSw); obtain ⟨s1, s2, s3⟩ := hSw; go_simp; (try with_reducible rfl)
              simp only [Act.put, List.setIfInBounds_toArray]; dsimp only [List.set_cons_zero, List.set_cons_succ]
              refine wpAnyN_take_in 75 39 40 60 (v := ?_) hT rfl (by decide) rfl rfl (fun _ _ _ h => h) (by rfl) ?_ hS ?_
              rotate_left
              · intro w hSw; (try dsimp only at hSw); obtain ⟨s1, s2, s3⟩ := hSw; go_simp; (try with_reducible rfl)
              simp only [Act.put, List.setIfInBounds_toArray]; dsimp only [List.set_cons_zero, List.set_cons_succ]
              refine wpAnyN_take_in 75 40 41 61 (v := ?_) hT rfl (by decide) rfl rfl (fun _ _ _ h => h) (by rfl) ?_ hS ?_
              rotate_left
              · intro w hSw; (try dsimp only at hSw); obtain ⟨s1, s2, s3⟩ := hSw; go_simp; (try with_reducible rfl)
              simp only [Act.put, List.setIfInBounds_toArray]; dsimp only [List.set_cons_zero, List.set_cons_succ]
              refine wpAnyN_take_in 75 41 42 62 (v := ?_) hT rfl (by decide) rfl rfl (fun _ _ _ h => h) (by rfl) ?_ hS ?_
              rotate_left
              · intro w hSw; (try dsimp only at hSw); obtain ⟨s1, s2, s3⟩ := hSw; go_simp; (try with_reducible rfl)
              simp only [Act.put, List.setIfInBounds_toArray]; dsimp only [List.set_cons_zero, List.set_cons_succ]
              refine wpAnyN_take_in 75 42 43 63 (v := ?_) hT rfl (by decide) rfl rfl (fun _ _ _ h => h) (by rfl) ?_ hS ?_
              rotate_left
              · intro w hSw; (try dsimp only at hSw); obtain ⟨s1, s2, s3⟩ := hSw; go_simp; (try with_reducible rfl)
              simp only [Act.put, List.setIfInBounds_toArray]; dsimp only [List.set_cons_zero, List.set_cons_succ]
              refine wpAnyN_take_in 75 43 44 64 (v := ?_) hT rfl (by decide) rfl rfl (fun _ _ _ h => h) (by rfl) ?_ hS ?_
              rotate_left
              · intro w hSw; (try dsimp only at hSw); obtain ⟨s1, s2, s3⟩ := hSw; go_simp; (try with_reducible rfl)
              simp only [Act.put, List.setIfInBounds_toArray]; dsimp only [List.set_cons_zero, List.set_cons_succ]
              refine wpAnyN_take_inno 75 44 45 65 hT rfl (by decide) rfl rfl (fun _ _ _ h => h) (by rfl) hS ?_
              simp only [Act.put, List.setIfInBounds_toArray]; dsimp only [List.set_cons_zero, List.set_cons_succ]
              refine wpAnyN_take_inno 75 45 46 66 hT rfl (by decide) rfl rfl (fun _ _ _ h => h) (by rfl) hS ?_
              simp only [Act.put, List.setIfInBounds_toArray]; dsimp only [List.set_cons_zero, List.set_cons_succ]
              refine wpAnyN_take_inno 75 46 47 67 hT rfl (by decide) rfl rfl (fun _ _ _ h => h) (by rfl) hS ?_
              simp only [Act.put, List.setIfInBounds_toArray]; dsimp only [List.set_cons_zero, List.set_cons_succ]
              refine wpAnyN_take_inno 75 47 48 68 hT rfl (by decide) rfl rfl (fun _ _ _ h => h) (by rfl) hS ?_
              simp only [Act.put, List.setIfInBounds_toArray]; dsimp only [List.set_cons_zero, List.set_cons_succ]
              as_aux_lemma =>
               refine wpAnyN_take_inno 75 48 49 69 hT rfl (by decide) rfl rfl (fun _ _ _ h => h) (by rfl) hS ?_
               simp only [Act.put, List.setIfInBounds_toArray]; dsimp only [List.set_cons_zero, List.set_cons_succ]
               refine wpAnyN_take_inno 75 49 50 70 hT rfl (by decide) rfl rfl (fun _ _ _ h => h) (by rfl) hS ?_
               simp only [Act.put, List.setIfInBounds_toArray]; dsimp only [List.set_cons_zero, List.set_cons_succ]
               refine wpAnyN_take_in 75 50 51 71 (v := ?_) hT rfl (by decide) rfl rfl (fun _ _ _ h => h) (by rfl) ?_ hS ?_
               rotate_left
               · intro w hSw; (try dsimp only at hSw); obtain ⟨s1, s2, s3⟩ := hSw; go_simp; (try with_reducible rfl)
               simp only [Act.put, List.setIfInBounds_toArray]; dsimp only [List.set_cons_zero, List.set_cons_succ]
               refine wpAnyN_take_in 75 51 52 72 (v := ?_) hT rfl (by decide) rfl rfl (fun _ _ _ h => h) (by rfl) ?_ hS ?_
               rotate_left
               · intro w hSw; (try dsimp only at hSw); obtain ⟨s1, s2, s3⟩ := hSw; go_simp; (try with_reducible rfl)
               simp only [Act.put, List.setIfInBounds_toArray]; dsimp only [List.set_cons_zero, List.set_cons_succ]
               refine wpAnyN_take_inno 75 52 53 73 hT rfl (by decide) rfl rfl (fun _ _ _ h => h) (by rfl) hS ?_
               simp only [Act.put, List.setIfInBounds_toArray]; dsimp only [List.set_cons_zero, List.set_cons_succ]
               refine wpAnyN_take_inno 75 53 54 74 hT rfl (by decide) rfl rfl (fun _ _ _ h => h) (by rfl) hS ?_
               simp only [Act.put, List.setIfInBounds_toArray]; dsimp only [List.set_cons_zero, List.set_cons_succ]
               refine wpAnyN_take_inno 75 54 55 75 hT rfl (by decide) rfl rfl (fun _ _ _ h => h) (by rfl) hS ?_
               simp only [Act.put, List.setIfInBounds_toArray]; dsimp only [List.set_cons_zero, List.set_cons_succ]
               refine wpAnyN_take_inno 75 55 56 76 hT rfl (by decide) rfl rfl (fun _ _ _ h => h) (by rfl) hS ?_
               simp only [Act.put, List.setIfInBounds_toArray]; dsimp only [List.set_cons_zero, List.set_cons_succ]
               refine wpAnyN_take_inno 75 56 57 77 hT rfl (by decide) rfl rfl (fun _ _ _ h => h) (by rfl) hS ?_
               simp only [Act.put, List.setIfInBounds_toArray]; dsimp only [List.set_cons_zero, List.set_cons_succ]
               refine wpAnyN_take_inno 75 57 58 78 hT rfl (by decide) rfl rfl (fun _ _ _ h => h) (by rfl) hS ?_
               simp only [Act.put, List.setIfInBounds_toArray]; dsimp only [List.set_cons_zero, List.set_cons_succ]
               refine wpAnyN_take_inno 75 58 59 79 hT rfl (by decide) rfl rfl (fun _ _ _ h => h) (by rfl) hS ?_
               simp only [Act.put, List.setIfInBounds_toArray]; dsimp only [List.set_cons_zero, List.set_cons_succ]
               refine wpAnyN_take_in 75 59 60 80 (v := ?_) hT rfl (by decide) rfl rfl (fun _ _ _ h => h) (by rfl) ?_ hS ?_
               rotate_left
               · intro w hSw; (try dsimp only at hSw); obtain ⟨s1, s2, s3⟩ := hSw; go_simp; (try with_reducible rfl)
               simp only [Act.put, List.setIfInBounds_toArray]; dsimp only [List.set_cons_zero, List.set_cons_succ]
               as_aux_lemma =>
                refine wpAnyN_take_in 75 60 61 81 (v := ?_) hT rfl (by decide) rfl rfl (fun _ _ _ h => h) (by rfl) ?_ hS ?_
                rotate_left
                · intro w hSw; (try dsimp only at hSw); obtain ⟨s1, s2, s3⟩ := hSw; go_simp; (try with_reducible rfl)
                simp only [Act.put, List.setIfInBounds_toArray]; dsimp only [List.set_cons_zero, List.set_cons_succ]
                refine wpAnyN_take_inno 75 61 62 82 hT rfl (by decide) rfl rfl (fun _ _ _ h => h) (by rfl) hS ?_
                simp only [Act.put, List.setIfInBounds_toArray]; dsimp only [List.set_cons_zero, List.set_cons_succ]
                refine wpAnyN_take_inno 75 62 63 83 hT rfl (by decide) rfl rfl (fun _ _ _ h => h) (by rfl) hS ?_
                simp only [Act.put, List.setIfInBounds_toArray]; dsimp only [List.set_cons_zero, List.set_cons_succ]
                refine wpAnyN_take_inno 75 63 64 84 hT rfl (by decide) rfl rfl (fun _ _ _ h => h) (by rfl) hS ?_
                simp only [Act.put, List.setIfInBounds_toArray]; dsimp only [List.set_cons_zero, List.set_cons_succ]
                refine wpAnyN_take_inno 75 64 65 85 hT rfl (by decide) rfl rfl (fun _ _ _ h => h) (by rfl) hS ?_
                simp only [Act.put, List.setIfInBounds_toArray]; dsimp only [List.set_cons_zero, List.set_cons_succ]
                refine wpAnyN_take_inno 75 65 66 86 hT rfl (by decide) rfl rfl (fun _ _ _ h => h) (by rfl) hS ?_
                simp only [Act.put, List.setIfInBounds_toArray]; dsimp only [List.set_cons_zero, List.set_cons_succ]
                refine wpAnyN_take_inno 75 66 67 87 hT rfl (by decide) rfl rfl (fun _ _ _ h => h) (by rfl) hS ?_
                simp only [Act.put, List.setIfInBounds_toArray]; dsimp only [List.set_cons_zero, List.set_cons_succ]
                refine wpAnyN_take_inno 75 67 68 88 hT rfl (by decide) rfl rfl (fun _ _ _ h => h) (by rfl) hS ?_
                simp only [Act.put, List.setIfInBounds_toArray]; dsimp only [List.set_cons_zero, List.set_cons_succ]
                refine wpAnyN_take_inno 75 68 69 89 hT rfl (by decide) rfl rfl (fun _ _ _ h => h) (by rfl) hS ?_
                simp only [Act.put, List.setIfInBounds_toArray]; dsimp only [List.set_cons_zero, List.set_cons_succ]
                refine wpAnyN_take_inno 75 69 70 90 hT rfl (by decide) rfl rfl (fun _ _ _ h => h) (by rfl) hS ?_
                simp only [Act.put, List.setIfInBounds_toArray]; dsimp only [List.set_cons_zero, List.set_cons_succ]
                refine wpAnyN_take_inno 75 70 71 91 hT rfl (by decide) rfl rfl (fun _ _ _ h => h) (by rfl) hS ?_
                simp only [Act.put, List.setIfInBounds_toArray]; dsimp only [List.set_cons_zero, List.set_cons_succ]
                refine wpAnyN_take_inno 75 71 72 92 hT rfl (by decide) rfl rfl (fun _ _ _ h => h) (by rfl) hS ?_
                simp only [Act.put, List.setIfInBounds_toArray]; dsimp only [List.set_cons_zero, List.set_cons_succ]
                as_aux_lemma =>
                 refine wpAnyN_take_inno 75 72 73 93 hT rfl (by decide) rfl rfl (fun _ _ _ h => h) (by rfl) hS ?_
                 simp only [Act.put, List.setIfInBounds_toArray]; dsimp only [List.set_cons_zero, List.set_cons_succ]
                 refine wpAnyN_take_in 75 73 74 94 (v := ?_) hT rfl (by decide) rfl rfl (fun _ _ _ h => h) (by rfl) ?_ hS ?_
                 rotate_left
                 · intro w hSw; (try dsimp only at hSw); obtain ⟨s1, s2, s3⟩ := hSw; go_simp; (try with_reducible rfl)
                 simp only [Act.put, List.setIfInBounds_toArray]; dsimp only [List.set_cons_zero, List.set_cons_succ]
                 refine wpAnyN_take_in 75 74 75 95 (v := ?_) hT rfl (by decide) rfl rfl (fun _ _ _ h => h) (by rfl) ?_ hS ?_
                 rotate_left
                 · intro w hSw; (try dsimp only at hSw); obtain ⟨s1, s2, s3⟩ := hSw; go_simp; (try with_reducible rfl)
                 simp only [Act.put, List.setIfInBounds_toArray]; dsimp only [List.set_cons_zero, List.set_cons_succ]
                 as_aux_lemma =>
                  refine wpAnyN_rest 75 [] rfl (by kernel_rfl) (by kernel_rfl) ?_
                  clear hS
                  cases hop : opn with
                  | true =>
                    rw [hop] at x3 hnt
                    simp only [if_true] at hnt
                    have HNT := Lib.hid hnt
                    clear hnt hop
                    go_wp2
                    go_roundw
                    case rel => exact ⟨0 + 1, _, by go_num, by rw [HNT.out, List.take_zero]; simp only [show numOf ([] : List Prt) = 0 from rfl, Nat.zero_add]; first | go_num | (simp; unfold wrap64; omega), (by have := HP.out; omega), rfl⟩
                    case measure => simp [intOf]; omega
                  | false =>
                    rw [hop] at x3 hnt
                    simp only [Bool.false_eq_true, if_false] at hnt
                    have HNT := Lib.hid hnt
                    clear hnt hop
                    go_wp2
                    go_roundw
                    case rel => exact ⟨0 + 1, _, by go_num, by rw [HNT.out, List.take_zero]; simp only [show numOf ([] : List Prt) = 0 from rfl, Nat.zero_add]; first | go_num | (simp; unfold wrap64; omega), (by have := HP.out; omega), rfl⟩
                    case measure => simp [intOf]; omega
      · obtain ⟨m, hmk⟩ : ∃ m, k = m + 1 := ⟨k - 1, by omega⟩
        have hm : m < ps.length := by omega
        have hmi : (m : Int) < (ps.length : Int) := by omega
        have hki : (k : Int) < (ps.length : Int) := by omega
        have hpm : ps[m]? = some ps[m] := List.getElem?_eq_getElem hm
        obtain ⟨b', off', lv', eA, y0, y1, _, _, _⟩ := HC.out m _ hpm
        cases eA
        obtain ⟨hd0, hd1, hd2, hl1, hl2⟩ := dep_next (p := ps[k]) HR.out (by rw [← hmk]; exact hpk) hpm
        have hdm := depth_le HR.out m _ hpm
        rw [show numP ps[k] = ps[k].ls.length + if ps[k].dv then (if ps[k].opn then 1 else 2) else 0 from rfl] at hnt
        clear hpk hpm
        generalize ps[k].ls.length = L at *
        generalize ps[k].opn = opn at *
        generalize ps[k].dv = dv at *
        generalize ps[k].depth = d at *
        generalize ps[m].dv = dv2 at *
        generalize ps[m].depth = d2 at *
        obtain ⟨o, ho⟩ : ∃ o, off + k * 5 = o := ⟨_, rfl⟩
        obtain ⟨o2, ho2⟩ : ∃ o, off + m * 5 = o := ⟨_, rfl⟩
        rw [ho] at x0 x1 x3 x4
        rw [ho2] at y0 y1
        have hsub : IntKind.i64.wrap ((k : Int) - 1) = (m : Int) := by rw [IntWalk.i64_in _ (by omega)]; omega
        have hwd2 : IntKind.i64.wrap (d2 + 1) = d2 + 1 := IntWalk.i64_in _ (by omega)
        clear hmk
        have fd0 : decide (d < 0) = false := by simp; omega
        have fd1 : decide (d2 + 1 < d) = false := by simp; omega
        have hb1 : numOf (ps.take k) ≤ 60 := by omega
        have hb2 : L ≤ 60 := by omega
        cases hdv : dv with
        | false =>
          rw [hdv] at x1 hnt hd2
          have hL := hl2 hdv
          have fL : decide ((0 : Int) < L) = true := by simp; omega
          simp only [Bool.false_eq_true, if_false, Nat.add_zero] at hnt
          have HNT := Lib.hid hnt
          clear hnt hdv hl1 hl2 hnl
          cases hdv2 : dv2 with
          | true =>
            rw [hdv2] at y1
            clear hd2 hdv2
            go_wp2_with fail
            have hS : (w2.drewN nd).drew.cell? ⟨b, o, none⟩ = some (.int .i64 d) ∧ (w2.drewN nd).drew.cell? ⟨b, o + 1, none⟩ = some (.bool false) ∧ (w2.drewN nd).drew.cell? ⟨b, o + 4, none⟩ = some (.slice A3 L c3) ∧ (w2.drewN nd).drew.cell? ⟨b, o2, none⟩ = some (.int .i64 d2) ∧ (w2.drewN nd).drew.cell? ⟨b, o2 + 1, none⟩ = some (.bool true) := ⟨x0, x1, x4, y0, y1⟩
            refine wp_region_T (n := 75) (fun W => W.cell? ⟨b, o, none⟩ = some (.int .i64 d) ∧ W.cell? ⟨b, o + 1, none⟩ = some (.bool false) ∧ W.cell? ⟨b, o + 4, none⟩ = some (.slice A3 L c3) ∧ W.cell? ⟨b, o2, none⟩ = some (.int .i64 d2) ∧ W.cell? ⟨b, o2 + 1, none⟩ = some (.bool true)) (by kernel_rfl) (by kernel_rfl) ?_
            intro hT
            as_aux_lemma =>
             refine wpAnyN_take_in 75 0 1 21 (v := ?_) hT rfl (by decide) rfl rfl (fun _ _ _ h => h) (by rfl) ?_ hS ?_
             rotate_left
             · intro w hSw; (try dsimp only at hSw); obtain ⟨s1, s2, s3, s4, s5⟩ := hSw; go_simp; (try with_reducible rfl)
             simp only [Act.put, List.setIfInBounds_toArray]; dsimp only [List.set_cons_zero, List.set_cons_succ]
             refine wpAnyN_take_in 75 1 2 22 (v := ?_) hT rfl (by decide) rfl rfl (fun _ _ _ h => h) (by rfl) ?_ hS ?_
             rotate_left
             · intro w hSw; (try dsimp only at hSw); obtain ⟨s1, s2, s3, s4, s5⟩ := hSw; go_simp; (try with_reducible rfl)
             simp only [Act.put, List.setIfInBounds_toArray]; dsimp only [List.set_cons_zero, List.set_cons_succ]
             refine wpAnyN_take_in 75 2 3 23 (v := ?_) hT rfl (by decide) rfl rfl (fun _ _ _ h => h) (by rfl) ?_ hS ?_
             rotate_left
             · intro w hSw; (try dsimp only at hSw); obtain ⟨s1, s2, s3, s4, s5⟩ := hSw; go_simp; (try with_reducible rfl)
             simp only [Act.put, List.setIfInBounds_toArray]; dsimp only [List.set_cons_zero, List.set_cons_succ]
             refine wpAnyN_take_in 75 3 4 24 (v := ?_) hT rfl (by decide) rfl rfl (fun _ _ _ h => h) (by rfl) ?_ hS ?_
             rotate_left
             · intro w hSw; (try dsimp only at hSw); obtain ⟨s1, s2, s3, s4, s5⟩ := hSw; go_simp; (try with_reducible rfl)
             simp only [Act.put, List.setIfInBounds_toArray]; dsimp only [List.set_cons_zero, List.set_cons_succ]
             refine wpAnyN_take_in 75 4 5 25 (v := ?_) hT rfl (by decide) rfl rfl (fun _ _ _ h => h) (by rfl) ?_ hS ?_
             rotate_left
             · intro w hSw; (try dsimp only at hSw); obtain ⟨s1, s2, s3, s4, s5⟩ := hSw; go_simp; (try with_reducible rfl)
             simp only [Act.put, List.setIfInBounds_toArray]; dsimp only [List.set_cons_zero, List.set_cons_succ]
             refine wpAnyN_take_in 75 5 6 26 (v := ?_) hT rfl (by decide) rfl rfl (fun _ _ _ h => h) (by rfl) ?_ hS ?_
             rotate_left
             · intro w hSw; (try dsimp only at hSw); obtain ⟨s1, s2, s3, s4, s5⟩ := hSw; go_simp; (try with_reducible rfl)
             simp only [Act.put, List.setIfInBounds_toArray]; dsimp only [List.set_cons_zero, List.set_cons_succ]
             refine wpAnyN_take_in 75 6 7 27 (v := ?_) hT rfl (by decide) rfl rfl (fun _ _ _ h => h) (by rfl) ?_ hS ?_
             rotate_left
             · intro w hSw; (try dsimp only at hSw); obtain ⟨s1, s2, s3, s4, s5⟩ := hSw; go_simp; (try with_reducible rfl)
             simp only [Act.put, List.setIfInBounds_toArray]; dsimp only [List.set_cons_zero, List.set_cons_succ]
             refine wpAnyN_take_in 75 7 8 28 (v := ?_) hT rfl (by decide) rfl rfl (fun _ _ _ h => h) (by rfl) ?_ hS ?_
             rotate_left
             · intro w hSw; (try dsimp only at hSw); obtain ⟨s1, s2, s3, s4, s5⟩ := hSw; go_simp; (try with_reducible rfl)
             simp only [Act.put, List.setIfInBounds_toArray]; dsimp only [List.set_cons_zero, List.set_cons_succ]
             refine wpAnyN_take_in 75 8 9 29 (v := ?_) hT rfl (by decide) rfl rfl (fun _ _ _ h => h) (by rfl) ?_ hS ?_
             rotate_left
             · intro w hSw; (try dsimp only at hSw); obtain ⟨s1, s2, s3, s4, s5⟩ := hSw; go_simp; (try with_reducible rfl)
             simp only [Act.put, List.setIfInBounds_toArray]; dsimp only [List.set_cons_zero, List.set_cons_succ]
             refine wpAnyN_take_in 75 9 10 30 (v := ?_) hT rfl (by decide) rfl rfl (fun _ _ _ h => h) (by rfl) ?_ hS ?_
             rotate_left
             · intro w hSw; (try dsimp only at hSw); obtain ⟨s1, s2, s3, s4, s5⟩ := hSw; go_simp; (try with_reducible rfl)
             simp only [Act.put, List.setIfInBounds_toArray]; dsimp only [List.set_cons_zero, List.set_cons_succ]
             refine wpAnyN_take_in 75 10 11 31 (v := ?_) hT rfl (by decide) rfl rfl (fun _ _ _ h => h) (by rfl) ?_ hS ?_
             rotate_left
             · intro w hSw; (try dsimp only at hSw); obtain ⟨s1, s2, s3, s4, s5⟩ := hSw; go_simp; (try with_reducible rfl)
             simp only [Act.put, List.setIfInBounds_toArray]; dsimp only [List.set_cons_zero, List.set_cons_succ]
             refine wpAnyN_take_in 75 11 12 32 (v := ?_) hT rfl (by decide) rfl rfl (fun _ _ _ h => h) (by rfl) ?_ hS ?_
             rotate_left
             · intro w hSw; (try dsimp only at hSw); obtain ⟨s1, s2, s3, s4, s5⟩ := hSw; go_simp; (try with_reducible rfl)
             simp only [Act.put, List.setIfInBounds_toArray]; dsimp only [List.set_cons_zero, List.set_cons_succ]
             as_aux_lemma =>
              refine wpAnyN_take_in 75 12 13 33 (v := ?_) hT rfl (by decide) rfl rfl (fun _ _ _ h => h) (by rfl) ?_ hS ?_
              rotate_left
              · intro w hSw; (try dsimp only at hSw); obtain ⟨s1, s2, s3, s4, s5⟩ := hSw; go_simp; (try with_reducible rfl)
              simp only [Act.put, List.setIfInBounds_toArray]; dsimp only [List.set_cons_zero, List.set_cons_succ]
              refine wpAnyN_take_in 75 13 14 34 (v := ?_) hT rfl (by decide) rfl rfl (fun _ _ _ h => h) (by rfl) ?_ hS ?_
              rotate_left
              · intro w hSw; (try dsimp only at hSw); obtain ⟨s1, s2, s3, s4, s5⟩ := hSw; go_simp; (try with_reducible rfl)
              simp only [Act.put, List.setIfInBounds_toArray]; dsimp only [List.set_cons_zero, List.set_cons_succ]
              refine wpAnyN_take_in 75 14 15 35 (v := ?_) hT rfl (by decide) rfl rfl (fun _ _ _ h => h) (by rfl) ?_ hS ?_
              rotate_left
              · intro w hSw; (try dsimp only at hSw); obtain ⟨s1, s2, s3, s4, s5⟩ := hSw; go_simp; (try with_reducible rfl)
              simp only [Act.put, List.setIfInBounds_toArray]; dsimp only [List.set_cons_zero, List.set_cons_succ]
              refine wpAnyN_take_in 75 15 16 36 (v := ?_) hT rfl (by decide) rfl rfl (fun _ _ _ h => h) (by rfl) ?_ hS ?_
              rotate_left
              · intro w hSw; (try dsimp only at hSw); obtain ⟨s1, s2, s3, s4, s5⟩ := hSw; go_simp; (try with_reducible rfl)
              simp only [Act.put, List.setIfInBounds_toArray]; dsimp only [List.set_cons_zero, List.set_cons_succ]
              refine wpAnyN_take_in 75 16 17 37 (v := ?_) hT rfl (by decide) rfl rfl (fun _ _ _ h => h) (by rfl) ?_ hS ?_
              rotate_left
              · intro w hSw; (try dsimp only at hSw); obtain ⟨s1, s2, s3, s4, s5⟩ := hSw; go_simp; (try with_reducible rfl)
              simp only [Act.put, List.setIfInBounds_toArray]; dsimp only [List.set_cons_zero, List.set_cons_succ]
              refine wpAnyN_take_in 75 17 18 38 (v := ?_) hT rfl (by decide) rfl rfl (fun _ _ _ h => h) (by rfl) ?_ hS ?_
              rotate_left
              · intro w hSw; (try dsimp only at hSw); obtain ⟨s1, s2, s3, s4, s5⟩ := hSw; go_simp; (try with_reducible rfl)
              simp only [Act.put, List.setIfInBounds_toArray]; dsimp only [List.set_cons_zero, List.set_cons_succ]
              refine wpAnyN_take_in 75 18 19 39 (v := ?_) hT rfl (by decide) rfl rfl (fun _ _ _ h => h) (by rfl) ?_ hS ?_
              rotate_left
              · intro w hSw; (try dsimp only at hSw); obtain ⟨s1, s2, s3, s4, s5⟩ := hSw; go_simp; (try with_reducible rfl)
              simp only [Act.put, List.setIfInBounds_toArray]; dsimp only [List.set_cons_zero, List.set_cons_succ]
              refine wpAnyN_take_in 75 19 20 40 (v := ?_) hT rfl (by decide) rfl rfl (fun _ _ _ h => h) (by rfl) ?_ hS ?_
              rotate_left
              · intro w hSw; (try dsimp only at hSw); obtain ⟨s1, s2, s3, s4, s5⟩ := hSw; go_simp; (try with_reducible rfl)
              simp only [Act.put, List.setIfInBounds_toArray]; dsimp only [List.set_cons_zero, List.set_cons_succ]
              refine wpAnyN_take_in 75 20 21 41 (v := ?_) hT rfl (by decide) rfl rfl (fun _ _ _ h => h) (by rfl) ?_ hS ?_
              rotate_left
              · intro w hSw; (try dsimp only at hSw); obtain ⟨s1, s2, s3, s4, s5⟩ := hSw; go_simp; (try with_reducible rfl)
              simp only [Act.put, List.setIfInBounds_toArray]; dsimp only [List.set_cons_zero, List.set_cons_succ]
              refine wpAnyN_take_in 75 21 22 42 (v := ?_) hT rfl (by decide) rfl rfl (fun _ _ _ h => h) (by rfl) ?_ hS ?_
              rotate_left
              · intro w hSw; (try dsimp only at hSw); obtain ⟨s1, s2, s3, s4, s5⟩ := hSw; go_simp; (try with_reducible rfl)
              simp only [Act.put, List.setIfInBounds_toArray]; dsimp only [List.set_cons_zero, List.set_cons_succ]
              refine wpAnyN_take_in 75 22 23 43 (v := ?_) hT rfl (by decide) rfl rfl (fun _ _ _ h => h) (by rfl) ?_ hS ?_
              rotate_left
              · intro w hSw; (try dsimp only at hSw); obtain ⟨s1, s2, s3, s4, s5⟩ := hSw; go_simp; (try with_reducible rfl)
              simp only [Act.put, List.setIfInBounds_toArray]; dsimp only [List.set_cons_zero, List.set_cons_succ]
              refine wpAnyN_take_in 75 23 24 44 (v := ?_) hT rfl (by decide) rfl rfl (fun _ _ _ h => h) (by rfl) ?_ hS ?_
              rotate_left
              · intro w hSw; (try dsimp only at hSw); obtain ⟨s1, s2, s3, s4, s5⟩ := hSw; go_simp; (try with_reducible rfl)
              simp only [Act.put, List.setIfInBounds_toArray]; dsimp only [List.set_cons_zero, List.set_cons_succ]
              as_aux_lemma =>
               refine wpAnyN_take_in 75 24 25 45 (v := ?_) hT rfl (by decide) rfl rfl (fun _ _ _ h => h) (by rfl) ?_ hS ?_
               rotate_left
               · intro w hSw; (try dsimp only at hSw); obtain ⟨s1, s2, s3, s4, s5⟩ := hSw; go_simp; (try with_reducible rfl)
               simp only [Act.put, List.setIfInBounds_toArray]; dsimp only [List.set_cons_zero, List.set_cons_succ]
               refine wpAnyN_take_in 75 25 26 46 (v := ?_) hT rfl (by decide) rfl rfl (fun _ _ _ h => h) (by rfl) ?_ hS ?_
               rotate_left
               · intro w hSw; (try dsimp only at hSw); obtain ⟨s1, s2, s3, s4, s5⟩ := hSw; go_simp; (try with_reducible rfl)
               simp only [Act.put, List.setIfInBounds_toArray]; dsimp only [List.set_cons_zero, List.set_cons_succ]
               refine wpAnyN_take_in 75 26 27 47 (v := ?_) hT rfl (by decide) rfl rfl (fun _ _ _ h => h) (by rfl) ?_ hS ?_
               rotate_left
               · intro w hSw; (try dsimp only at hSw); obtain ⟨s1, s2, s3, s4, s5⟩ := hSw; go_simp; (try with_reducible rfl)
               simp only [Act.put, List.setIfInBounds_toArray]; dsimp only [List.set_cons_zero, List.set_cons_succ]
               refine wpAnyN_take_in 75 27 28 48 (v := ?_) hT rfl (by decide) rfl rfl (fun _ _ _ h => h) (by rfl) ?_ hS ?_
               rotate_left
               · intro w hSw; (try dsimp only at hSw); obtain ⟨s1, s2, s3, s4, s5⟩ := hSw; go_simp; (try with_reducible rfl)
               simp only [Act.put, List.setIfInBounds_toArray]; dsimp only [List.set_cons_zero, List.set_cons_succ]
               refine wpAnyN_take_in 75 28 29 49 (v := ?_) hT rfl (by decide) rfl rfl (fun _ _ _ h => h) (by rfl) ?_ hS ?_
               rotate_left
               · intro w hSw; (try dsimp only at hSw); obtain ⟨s1, s2, s3, s4, s5⟩ := hSw; go_simp; (try with_reducible rfl)
               simp only [Act.put, List.setIfInBounds_toArray]; dsimp only [List.set_cons_zero, List.set_cons_succ]
               refine wpAnyN_take_in 75 29 30 50 (v := ?_) hT rfl (by decide) rfl rfl (fun _ _ _ h => h) (by rfl) ?_ hS ?_
               rotate_left
               · intro w hSw; (try dsimp only at hSw); obtain ⟨s1, s2, s3, s4, s5⟩ := hSw; go_simp; (try with_reducible rfl)
               simp only [Act.put, List.setIfInBounds_toArray]; dsimp only [List.set_cons_zero, List.set_cons_succ]
               refine wpAnyN_take_in 75 30 31 51 (v := ?_) hT rfl (by decide) rfl rfl (fun _ _ _ h => h) (by rfl) ?_ hS ?_
               rotate_left
               · intro w hSw; (try dsimp only at hSw); obtain ⟨s1, s2, s3, s4, s5⟩ := hSw; go_simp; (try with_reducible rfl)
               simp only [Act.put, List.setIfInBounds_toArray]; dsimp only [List.set_cons_zero, List.set_cons_succ]
               refine wpAnyN_take_in 75 31 32 52 (v := ?_) hT rfl (by decide) rfl rfl (fun _ _ _ h => h) (by rfl) ?_ hS ?_
               rotate_left
               · intro w hSw; (try dsimp only at hSw); obtain ⟨s1, s2, s3, s4, s5⟩ := hSw; go_simp; (try with_reducible rfl)
               simp only [Act.put, List.setIfInBounds_toArray]; dsimp only [List.set_cons_zero, List.set_cons_succ]
               refine wpAnyN_take_in 75 32 33 53 (v := ?_) hT rfl (by decide) rfl rfl (fun _ _ _ h => h) (by rfl) ?_ hS ?_
               rotate_left
               · intro w hSw; (try dsimp only at hSw); obtain ⟨s1, s2, s3, s4, s5⟩ := hSw; go_simp; (try with_reducible rfl)
               simp only [Act.put, List.setIfInBounds_toArray]; dsimp only [List.set_cons_zero, List.set_cons_succ]
               refine wpAnyN_take_in 75 33 34 54 (v := ?_) hT rfl (by decide) rfl rfl (fun _ _ _ h => h) (by rfl) ?_ hS ?_
               rotate_left
               · intro w hSw; (try dsimp only at hSw); obtain ⟨s1, s2, s3, s4, s5⟩ := hSw; go_simp; (try with_reducible rfl)
               simp only [Act.put, List.setIfInBounds_toArray]; dsimp only [List.set_cons_zero, List.set_cons_succ]
               refine wpAnyN_take_in 75 34 35 55 (v := ?_) hT rfl (by decide) rfl rfl (fun _ _ _ h => h) (by rfl) ?_ hS ?_
               rotate_left
               · intro w hSw; (try dsimp only at hSw); obtain ⟨s1, s2, s3, s4, s5⟩ := hSw; go_simp; (try with_reducible rfl)
               simp only [Act.put, List.setIfInBounds_toArray]; dsimp only [List.set_cons_zero, List.set_cons_succ]
               refine wpAnyN_take_in 75 35 36 56 (v := ?_) hT rfl (by decide) rfl rfl (fun _ _ _ h => h) (by rfl) ?_ hS ?_
               rotate_left
               · intro w hSw; (try dsimp only at hSw); obtain ⟨s1, s2, s3, s4, s5⟩ := hSw; go_simp; (try with_reducible rfl)
               simp only [Act.put, List.setIfInBounds_toArray]; dsimp only [List.set_cons_zero, List.set_cons_succ]
               as_aux_lemma =>
                refine wpAnyN_take_in 75 36 37 57 (v := ?_) hT rfl (by decide) rfl rfl (fun _ _ _ h => h) (by rfl) ?_ hS ?_
                rotate_left
                · intro w hSw; (try dsimp only at hSw); obtain ⟨s1, s2, s3, s4, s5⟩ := hSw; go_simp; (try with_reducible rfl)
                simp only [Act.put, List.setIfInBounds_toArray]; dsimp only [List.set_cons_zero, List.set_cons_succ]
                refine wpAnyN_take_in 75 37 38 58 (v := ?_) hT rfl (by decide) rfl rfl (fun _ _ _ h => h) (by rfl) ?_ hS ?_
                rotate_left
                · intro w hSw; (try dsimp only at hSw); obtain ⟨s1, s2, s3, s4, s5⟩ := hSw; go_simp; (try with_reducible rfl)
                simp only [Act.put, List.setIfInBounds_toArray]; dsimp only [List.set_cons_zero, List.set_cons_succ]
                refine wpAnyN_take_in 75 38 39 59 (v := ?_) hT rfl (by decide) rfl rfl (fun _ _ _ h => h) (by rfl) ?_ hS ?_
                rotate_left
                · intro w hSw; (try dsimp only at hSw); obtain ⟨s1, s2, s3, s4, s5⟩ := hSw; go_simp; (try with_reducible rfl)
                simp only [Act.put, List.setIfInBounds_toArray]; dsimp only [List.set_cons_zero, List.set_cons_succ]
                refine wpAnyN_take_in 75 39 40 60 (v := ?_) hT rfl (by decide) rfl rfl (fun _ _ _ h => h) (by rfl) ?_ hS ?_
                rotate_left
                · intro w hSw; (try dsimp only at hSw); obtain ⟨s1, s2, s3, s4, s5⟩ := hSw; go_simp; (try with_reducible rfl)
                simp only [Act.put, List.setIfInBounds_toArray]; dsimp only [List.set_cons_zero, List.set_cons_succ]
                refine wpAnyN_take_in 75 40 41 61 (v := ?_) hT rfl (by decide) rfl rfl (fun _ _ _ h => h) (by rfl) ?_ hS ?_
                rotate_left
                · intro w hSw; (try dsimp only at hSw); obtain ⟨s1, s2, s3, s4, s5⟩ := hSw; go_simp; (try with_reducible rfl)
                simp only [Act.put, List.setIfInBounds_toArray]; dsimp only [List.set_cons_zero, List.set_cons_succ]
                refine wpAnyN_take_in 75 41 42 62 (v := ?_) hT rfl (by decide) rfl rfl (fun _ _ _ h => h) (by rfl) ?_ hS ?_
                rotate_left
                · intro w hSw; (try dsimp only at hSw); obtain ⟨s1, s2, s3, s4, s5⟩ := hSw; go_simp; (try with_reducible rfl)
                simp only [Act.put, List.setIfInBounds_toArray]; dsimp only [List.set_cons_zero, List.set_cons_succ]
                refine wpAnyN_take_in 75 42 43 63 (v := ?_) hT rfl (by decide) rfl rfl (fun _ _ _ h => h) (by rfl) ?_ hS ?_
                rotate_left
                · intro w hSw; (try dsimp only at hSw); obtain ⟨s1, s2, s3, s4, s5⟩ := hSw; go_simp; (try with_reducible rfl)
                simp only [Act.put, List.setIfInBounds_toArray]; dsimp only [List.set_cons_zero, List.set_cons_succ]
                refine wpAnyN_take_in 75 43 44 64 (v := ?_) hT rfl (by decide) rfl rfl (fun _ _ _ h => h) (by rfl) ?_ hS ?_
                rotate_left
                · intro w hSw; (try dsimp only at hSw); obtain ⟨s1, s2, s3, s4, s5⟩ := hSw; go_simp; (try with_reducible rfl)
                simp only [Act.put, List.setIfInBounds_toArray]; dsimp only [List.set_cons_zero, List.set_cons_succ]
                refine wpAnyN_take_in 75 44 45 65 (v := ?_) hT rfl (by decide) rfl rfl (fun _ _ _ h => h) (by rfl) ?_ hS ?_
                rotate_left
                · intro w hSw; (try dsimp only at hSw); obtain ⟨s1, s2, s3, s4, s5⟩ := hSw; go_simp; (try with_reducible rfl)
                simp only [Act.put, List.setIfInBounds_toArray]; dsimp only [List.set_cons_zero, List.set_cons_succ]
                refine wpAnyN_take_in 75 45 46 66 (v := ?_) hT rfl (by decide) rfl rfl (fun _ _ _ h => h) (by rfl) ?_ hS ?_
                rotate_left
                · intro w hSw; (try dsimp only at hSw); obtain ⟨s1, s2, s3, s4, s5⟩ := hSw; go_simp; (try with_reducible rfl)
                simp only [Act.put, List.setIfInBounds_toArray]; dsimp only [List.set_cons_zero, List.set_cons_succ]
                refine wpAnyN_take_in 75 46 47 67 (v := ?_) hT rfl (by decide) rfl rfl (fun _ _ _ h => h) (by rfl) ?_ hS ?_
                rotate_left
                · intro w hSw; (try dsimp only at hSw); obtain ⟨s1, s2, s3, s4, s5⟩ := hSw; go_simp; (try with_reducible rfl)
                simp only [Act.put, List.setIfInBounds_toArray]; dsimp only [List.set_cons_zero, List.set_cons_succ]
                refine wpAnyN_take_in 75 47 48 68 (v := ?_) hT rfl (by decide) rfl rfl (fun _ _ _ h => h) (by rfl) ?_ hS ?_
                rotate_left
                · intro w hSw; (try dsimp only at hSw); obtain ⟨s1, s2, s3, s4, s5⟩ := hSw; go_simp; (try with_reducible rfl)
                simp only [Act.put, List.setIfInBounds_toArray]; dsimp only [List.set_cons_zero, List.set_cons_succ]
                as_aux_lemma =>
                 refine wpAnyN_take_in 75 48 49 69 (v := ?_) hT rfl (by decide) rfl rfl (fun _ _ _ h => h) (by rfl) ?_ hS ?_
                 rotate_left
                 · intro w hSw; (try dsimp only at hSw); obtain ⟨s1, s2, s3, s4, s5⟩ := hSw; go_simp; (try with_reducible rfl)
                 simp only [Act.put, List.setIfInBounds_toArray]; dsimp only [List.set_cons_zero, List.set_cons_succ]
                 refine wpAnyN_take_in 75 49 50 70 (v := ?_) hT rfl (by decide) rfl rfl (fun _ _ _ h => h) (by rfl) ?_ hS ?_
                 rotate_left
                 · intro w hSw; (try dsimp only at hSw); obtain ⟨s1, s2, s3, s4, s5⟩ := hSw; go_simp; (try with_reducible rfl)
                 simp only [Act.put, List.setIfInBounds_toArray]; dsimp only [List.set_cons_zero, List.set_cons_succ]
                 refine wpAnyN_take_in 75 50 51 71 (v := ?_) hT rfl (by decide) rfl rfl (fun _ _ _ h => h) (by rfl) ?_ hS ?_
                 rotate_left
                 · intro w hSw; (try dsimp only at hSw); obtain ⟨s1, s2, s3, s4, s5⟩ := hSw; go_simp; (try with_reducible rfl)
                 simp only [Act.put, List.setIfInBounds_toArray]; dsimp only [List.set_cons_zero, List.set_cons_succ]
                 refine wpAnyN_take_in 75 51 52 72 (v := ?_) hT rfl (by decide) rfl rfl (fun _ _ _ h => h) (by rfl) ?_ hS ?_
                 rotate_left
                 · intro w hSw; (try dsimp only at hSw); obtain ⟨s1, s2, s3, s4, s5⟩ := hSw; go_simp; (try with_reducible rfl)
                 simp only [Act.put, List.setIfInBounds_toArray]; dsimp only [List.set_cons_zero, List.set_cons_succ]
                 refine wpAnyN_take_in 75 52 53 73 (v := ?_) hT rfl (by decide) rfl rfl (fun _ _ _ h => h) (by rfl) ?_ hS ?_
                 rotate_left
                 · intro w hSw; (try dsimp only at hSw); obtain ⟨s1, s2, s3, s4, s5⟩ := hSw; go_simp; (try with_reducible rfl)
                 simp only [Act.put, List.setIfInBounds_toArray]; dsimp only [List.set_cons_zero, List.set_cons_succ]
                 refine wpAnyN_take_in 75 53 54 74 (v := ?_) hT rfl (by decide) rfl rfl (fun _ _ _ h => h) (by rfl) ?_ hS ?_
                 rotate_left
                 · intro w hSw; (try dsimp only at hSw); obtain ⟨s1, s2, s3, s4, s5⟩ := hSw; go_simp; (try with_reducible rfl)
                 simp only [Act.put, List.setIfInBounds_toArray]; dsimp only [List.set_cons_zero, List.set_cons_succ]
                 refine wpAnyN_take_in 75 54 55 75 (v := ?_) hT rfl (by decide) rfl rfl (fun _ _ _ h => h) (by rfl) ?_ hS ?_
                 rotate_left
                 · intro w hSw; (try dsimp only at hSw); obtain ⟨s1, s2, s3, s4, s5⟩ := hSw; go_simp; (try with_reducible rfl)
                 simp only [Act.put, List.setIfInBounds_toArray]; dsimp only [List.set_cons_zero, List.set_cons_succ]
                 refine wpAnyN_take_in 75 55 56 76 (v := ?_) hT rfl (by decide) rfl rfl (fun _ _ _ h => h) (by rfl) ?_ hS ?_
                 rotate_left
                 · intro w hSw; (try dsimp only at hSw); obtain ⟨s1, s2, s3, s4, s5⟩ := hSw; go_simp; (try with_reducible rfl)
                 simp only [Act.put, List.setIfInBounds_toArray]; dsimp only [List.set_cons_zero, List.set_cons_succ]
                 refine wpAnyN_take_in 75 56 57 77 (v := ?_) hT rfl (by decide) rfl rfl (fun _ _ _ h => h) (by rfl) ?_ hS ?_
                 rotate_left
                 · intro w hSw; (try dsimp only at hSw); obtain ⟨s1, s2, s3, s4, s5⟩ := hSw; go_simp; (try with_reducible rfl)
                 simp only [Act.put, List.setIfInBounds_toArray]; dsimp only [List.set_cons_zero, List.set_cons_succ]
                 refine wpAnyN_take_in 75 57 58 78 (v := ?_) hT rfl (by decide) rfl rfl (fun _ _ _ h => h) (by rfl) ?_ hS ?_
                 rotate_left
                 · intro w hSw; (try dsimp only at hSw); obtain ⟨s1, s2, s3, s4, s5⟩ := hSw; go_simp; (try with_reducible rfl)
                 simp only [Act.put, List.setIfInBounds_toArray]; dsimp only [List.set_cons_zero, List.set_cons_succ]
                 refine wpAnyN_take_in 75 58 59 79 (v := ?_) hT rfl (by decide) rfl rfl (fun _ _ _ h => h) (by rfl) ?_ hS ?_
                 rotate_left
                 · intro w hSw; (try dsimp only at hSw); obtain ⟨s1, s2, s3, s4, s5⟩ := hSw; go_simp; (try with_reducible rfl)
                 simp only [Act.put, List.setIfInBounds_toArray]; dsimp only [List.set_cons_zero, List.set_cons_succ]
                 refine wpAnyN_take_in 75 59 60 80 (v := ?_) hT rfl (by decide) rfl rfl (fun _ _ _ h => h) (by rfl) ?_ hS ?_
                 rotate_left
                 · intro w hSw; (try dsimp only at hSw); obtain ⟨s1, s2, s3, s4, s5⟩ := hSw; go_simp; (try with_reducible rfl)
                 simp only [Act.put, List.setIfInBounds_toArray]; dsimp only [List.set_cons_zero, List.set_cons_succ]
                 as_aux_lemma =>
                  refine wpAnyN_take_in 75 60 61 81 (v := ?_) hT rfl (by decide) rfl rfl (fun _ _ _ h => h) (by rfl) ?_ hS ?_
                  rotate_left
                  · intro w hSw; (try dsimp only at hSw); obtain ⟨s1, s2, s3, s4, s5⟩ := hSw; go_simp; (try with_reducible rfl)
                  simp only [Act.put, List.setIfInBounds_toArray]; dsimp only [List.set_cons_zero, List.set_cons_succ]
                  refine wpAnyN_take_inno 75 61 62 82 hT rfl (by decide) rfl rfl (fun _ _ _ h => h) (by rfl) hS ?_
                  simp only [Act.put, List.setIfInBounds_toArray]; dsimp only [List.set_cons_zero, List.set_cons_succ]
                  refine wpAnyN_take_inno 75 62 63 83 hT rfl (by decide) rfl rfl (fun _ _ _ h => h) (by rfl) hS ?_
                  simp only [Act.put, List.setIfInBounds_toArray]; dsimp only [List.set_cons_zero, List.set_cons_succ]
                  refine wpAnyN_take_inno 75 63 64 84 hT rfl (by decide) rfl rfl (fun _ _ _ h => h) (by rfl) hS ?_
                  simp only [Act.put, List.setIfInBounds_toArray]; dsimp only [List.set_cons_zero, List.set_cons_succ]
                  refine wpAnyN_take_inno 75 64 65 85 hT rfl (by decide) rfl rfl (fun _ _ _ h => h) (by rfl) hS ?_
                  simp only [Act.put, List.setIfInBounds_toArray]; dsimp only [List.set_cons_zero, List.set_cons_succ]
                  refine wpAnyN_take_inno 75 65 66 86 hT rfl (by decide) rfl rfl (fun _ _ _ h => h) (by rfl) hS ?_
                  simp only [Act.put, List.setIfInBounds_toArray]; dsimp only [List.set_cons_zero, List.set_cons_succ]
                  refine wpAnyN_take_inno 75 66 67 87 hT rfl (by decide) rfl rfl (fun _ _ _ h => h) (by rfl) hS ?_
                  simp only [Act.put, List.setIfInBounds_toArray]; dsimp only [List.set_cons_zero, List.set_cons_succ]
                  refine wpAnyN_take_inno 75 67 68 88 hT rfl (by decide) rfl rfl (fun _ _ _ h => h) (by rfl) hS ?_
                  simp only [Act.put, List.setIfInBounds_toArray]; dsimp only [List.set_cons_zero, List.set_cons_succ]
                  refine wpAnyN_take_inno 75 68 69 89 hT rfl (by decide) rfl rfl (fun _ _ _ h => h) (by rfl) hS ?_
                  simp only [Act.put, List.setIfInBounds_toArray]; dsimp only [List.set_cons_zero, List.set_cons_succ]
                  refine wpAnyN_take_inno 75 69 70 90 hT rfl (by decide) rfl rfl (fun _ _ _ h => h) (by rfl) hS ?_
                  simp only [Act.put, List.setIfInBounds_toArray]; dsimp only [List.set_cons_zero, List.set_cons_succ]
                  refine wpAnyN_take_inno 75 70 71 91 hT rfl (by decide) rfl rfl (fun _ _ _ h => h) (by rfl) hS ?_
                  simp only [Act.put, List.setIfInBounds_toArray]; dsimp only [List.set_cons_zero, List.set_cons_succ]
                  refine wpAnyN_take_inno 75 71 72 92 hT rfl (by decide) rfl rfl (fun _ _ _ h => h) (by rfl) hS ?_
                  simp only [Act.put, List.setIfInBounds_toArray]; dsimp only [List.set_cons_zero, List.set_cons_succ]
                  as_aux_lemma =>
                   refine wpAnyN_take_inno 75 72 73 93 hT rfl (by decide) rfl rfl (fun _ _ _ h => h) (by rfl) hS ?_
                   simp only [Act.put, List.setIfInBounds_toArray]; dsimp only [List.set_cons_zero, List.set_cons_succ]
                   refine wpAnyN_take_in 75 73 74 94 (v := ?_) hT rfl (by decide) rfl rfl (fun _ _ _ h => h) (by rfl) ?_ hS ?_
                   rotate_left
                   · intro w hSw; (try dsimp only at hSw); obtain ⟨s1, s2, s3, s4, s5⟩ := hSw; go_simp; (try with_reducible rfl)
                   simp only [Act.put, List.setIfInBounds_toArray]; dsimp only [List.set_cons_zero, List.set_cons_succ]
                   refine wpAnyN_take_in 75 74 75 95 (v := ?_) hT rfl (by decide) rfl rfl (fun _ _ _ h => h) (by rfl) ?_ hS ?_
                   rotate_left
                   · intro w hSw; (try dsimp only at hSw); obtain ⟨s1, s2, s3, s4, s5⟩ := hSw; go_simp; (try with_reducible rfl)
                   simp only [Act.put, List.setIfInBounds_toArray]; dsimp only [List.set_cons_zero, List.set_cons_succ]
                   as_aux_lemma =>
                    refine wpAnyN_rest 75 [] rfl (by kernel_rfl) (by kernel_rfl) ?_
                    clear hS
                    go_wp2
                    go_roundw
                    case rel => exact ⟨k + 1, _, by go_num, by rw [HNT.out]; go_num, (by have := HP.out; omega), rfl⟩
                    case measure => simp [intOf]; omega
          | false =>
            rw [hdv2] at y1
            have fne : (d == d2) = false := by simpa using hd2 rfl hdv2
            clear hd2 hdv2
            go_wp2_with fail
            have hS : (w2.drewN nd).drew.cell? ⟨b, o, none⟩ = some (.int .i64 d) ∧ (w2.drewN nd).drew.cell? ⟨b, o + 1, none⟩ = some (.bool false) ∧ (w2.drewN nd).drew.cell? ⟨b, o + 4, none⟩ = some (.slice A3 L c3) ∧ (w2.drewN nd).drew.cell? ⟨b, o2, none⟩ = some (.int .i64 d2) ∧ (w2.drewN nd).drew.cell? ⟨b, o2 + 1, none⟩ = some (.bool false) := ⟨x0, x1, x4, y0, y1⟩
            refine wp_region_T (n := 75) (fun W => W.cell? ⟨b, o, none⟩ = some (.int .i64 d) ∧ W.cell? ⟨b, o + 1, none⟩ = some (.bool false) ∧ W.cell? ⟨b, o + 4, none⟩ = some (.slice A3 L c3) ∧ W.cell? ⟨b, o2, none⟩ = some (.int .i64 d2) ∧ W.cell? ⟨b, o2 + 1, none⟩ = some (.bool false)) (by kernel_rfl) (by kernel_rfl) ?_
            intro hT
            as_aux_lemma =>
             refine wpAnyN_take_in 75 0 1 21 (v := ?_) hT rfl (by decide) rfl rfl (fun _ _ _ h => h) (by rfl) ?_ hS ?_
             rotate_left
             · intro w hSw; (try dsimp only at hSw); obtain ⟨s1, s2, s3, s4, s5⟩ := hSw; go_simp; (try with_reducible rfl)
             simp only [Act.put, List.setIfInBounds_toArray]; dsimp only [List.set_cons_zero, List.set_cons_succ]
             refine wpAnyN_take_in 75 1 2 22 (v := ?_) hT rfl (by decide) rfl rfl (fun _ _ _ h => h) (by rfl) ?_ hS ?_
             rotate_left
             · intro w hSw; (try dsimp only at hSw); obtain ⟨s1, s2, s3, s4, s5⟩ := hSw; go_simp; (try with_reducible rfl)
             simp only [Act.put, List.setIfInBounds_toArray]; dsimp only [List.set_cons_zero, List.set_cons_succ]
             refine wpAnyN_take_in 75 2 3 23 (v := ?_) hT rfl (by decide) rfl rfl (fun _ _ _ h => h) (by rfl) ?_ hS ?_
             rotate_left
             · intro w hSw; (try dsimp only at hSw); obtain ⟨s1, s2, s3, s4, s5⟩ := hSw; go_simp; (try with_reducible rfl)
             simp only [Act.put, List.setIfInBounds_toArray]; dsimp only [List.set_cons_zero, List.set_cons_succ]
             refine wpAnyN_take_in 75 3 4 24 (v := ?_) hT rfl (by decide) rfl rfl (fun _ _ _ h => h) (by rfl) ?_ hS ?_
             rotate_left
             · intro w hSw; (try dsimp only at hSw); obtain ⟨s1, s2, s3, s4, s5⟩ := hSw; go_simp; (try with_reducible rfl)
             simp only [Act.put, List.setIfInBounds_toArray]; dsimp only [List.set_cons_zero, List.set_cons_succ]
             refine wpAnyN_take_in 75 4 5 25 (v := ?_) hT rfl (by decide) rfl rfl (fun _ _ _ h => h) (by rfl) ?_ hS ?_
             rotate_left
             · intro w hSw; (try dsimp only at hSw); obtain ⟨s1, s2, s3, s4, s5⟩ := hSw; go_simp; (try with_reducible rfl)
             simp only [Act.put, List.setIfInBounds_toArray]; dsimp only [List.set_cons_zero, List.set_cons_succ]
             refine wpAnyN_take_in 75 5 6 26 (v := ?_) hT rfl (by decide) rfl rfl (fun _ _ _ h => h) (by rfl) ?_ hS ?_
             rotate_left
             · intro w hSw; (try dsimp only at hSw); obtain ⟨s1, s2, s3, s4, s5⟩ := hSw; go_simp; (try with_reducible rfl)
             simp only [Act.put, List.setIfInBounds_toArray]; dsimp only [List.set_cons_zero, List.set_cons_succ]
             refine wpAnyN_take_in 75 6 7 27 (v := ?_) hT rfl (by decide) rfl rfl (fun _ _ _ h => h) (by rfl) ?_ hS ?_
             rotate_left
             · intro w hSw; (try dsimp only at hSw); obtain ⟨s1, s2, s3, s4, s5⟩ := hSw; go_simp; (try with_reducible rfl)
             simp only [Act.put, List.setIfInBounds_toArray]; dsimp only [List.set_cons_zero, List.set_cons_succ]
             refine wpAnyN_take_in 75 7 8 28 (v := ?_) hT rfl (by decide) rfl rfl (fun _ _ _ h => h) (by rfl) ?_ hS ?_
             rotate_left
             · intro w hSw; (try dsimp only at hSw); obtain ⟨s1, s2, s3, s4, s5⟩ := hSw; go_simp; (try with_reducible rfl)
             simp only [Act.put, List.setIfInBounds_toArray]; dsimp only [List.set_cons_zero, List.set_cons_succ]
             refine wpAnyN_take_in 75 8 9 29 (v := ?_) hT rfl (by decide) rfl rfl (fun _ _ _ h => h) (by rfl) ?_ hS ?_
             rotate_left
             · intro w hSw; (try dsimp only at hSw); obtain ⟨s1, s2, s3, s4, s5⟩ := hSw; go_simp; (try with_reducible rfl)
             simp only [Act.put, List.setIfInBounds_toArray]; dsimp only [List.set_cons_zero, List.set_cons_succ]
             refine wpAnyN_take_in 75 9 10 30 (v := ?_) hT rfl (by decide) rfl rfl (fun _ _ _ h => h) (by rfl) ?_ hS ?_
             rotate_left
             · intro w hSw; (try dsimp only at hSw); obtain ⟨s1, s2, s3, s4, s5⟩ := hSw; go_simp; (try with_reducible rfl)
             simp only [Act.put, List.setIfInBounds_toArray]; dsimp only [List.set_cons_zero, List.set_cons_succ]
             refine wpAnyN_take_in 75 10 11 31 (v := ?_) hT rfl (by decide) rfl rfl (fun _ _ _ h => h) (by rfl) ?_ hS ?_
             rotate_left
             · intro w hSw; (try dsimp only at hSw); obtain ⟨s1, s2, s3, s4, s5⟩ := hSw; go_simp; (try with_reducible rfl)
             simp only [Act.put, List.setIfInBounds_toArray]; dsimp only [List.set_cons_zero, List.set_cons_succ]
             refine wpAnyN_take_in 75 11 12 32 (v := ?_) hT rfl (by decide) rfl rfl (fun _ _ _ h => h) (by rfl) ?_ hS ?_
             rotate_left
             · intro w hSw; (try dsimp only at hSw); obtain ⟨s1, s2, s3, s4, s5⟩ := hSw; go_simp; (try with_reducible rfl)
             simp only [Act.put, List.setIfInBounds_toArray]; dsimp only [List.set_cons_zero, List.set_cons_succ]
             as_aux_lemma =>
              refine wpAnyN_take_in 75 12 13 33 (v := ?_) hT rfl (by decide) rfl rfl (fun _ _ _ h => h) (by rfl) ?_ hS ?_
              rotate_left
              · intro w hSw; (try dsimp only at hSw); obtain ⟨s1, s2, s3, s4, s5⟩ := hSw; go_simp; (try with_reducible rfl)
              simp only [Act.put, List.setIfInBounds_toArray]; dsimp only [List.set_cons_zero, List.set_cons_succ]
              refine wpAnyN_take_in 75 13 14 34 (v := ?_) hT rfl (by decide) rfl rfl (fun _ _ _ h => h) (by rfl) ?_ hS ?_
              rotate_left
              · intro w hSw; (try dsimp only at hSw); obtain ⟨s1, s2, s3, s4, s5⟩ := hSw; go_simp; (try with_reducible rfl)
              simp only [Act.put, List.setIfInBounds_toArray]; dsimp only [List.set_cons_zero, List.set_cons_succ]
              refine wpAnyN_take_in 75 14 15 35 (v := ?_) hT rfl (by decide) rfl rfl (fun _ _ _ h => h) (by rfl) ?_ hS ?_
              rotate_left
              · intro w hSw; (try dsimp only at hSw); obtain ⟨s1, s2, s3, s4, s5⟩ := hSw; go_simp; (try with_reducible rfl)
              simp only [Act.put, List.setIfInBounds_toArray]; dsimp only [List.set_cons_zero, List.set_cons_succ]
              refine wpAnyN_take_in 75 15 16 36 (v := ?_) hT rfl (by decide) rfl rfl (fun _ _ _ h => h) (by rfl) ?_ hS ?_
              rotate_left
              · intro w hSw; (try dsimp only at hSw); obtain ⟨s1, s2, s3, s4, s5⟩ := hSw; go_simp; (try with_reducible rfl)
              simp only [Act.put, List.setIfInBounds_toArray]; dsimp only [List.set_cons_zero, List.set_cons_succ]
              refine wpAnyN_take_in 75 16 17 37 (v := ?_) hT rfl (by decide) rfl rfl (fun _ _ _ h => h) (by rfl) ?_ hS ?_
              rotate_left
              · intro w hSw; (try dsimp only at hSw); obtain ⟨s1, s2, s3, s4, s5⟩ := hSw; go_simp; (try with_reducible rfl)
              simp only [Act.put, List.setIfInBounds_toArray]; dsimp only [List.set_cons_zero, List.set_cons_succ]
              refine wpAnyN_take_in 75 17 18 38 (v := ?_) hT rfl (by decide) rfl rfl (fun _ _ _ h => h) (by rfl) ?_ hS ?_
              rotate_left
              · intro w hSw; (try dsimp only at hSw); obtain ⟨s1, s2, s3, s4, s5⟩ := hSw; go_simp; (try with_reducible rfl)
              simp only [Act.put, List.setIfInBounds_toArray]; dsimp only [List.set_cons_zero, List.set_cons_succ]
              refine wpAnyN_take_in 75 18 19 39 (v := ?_) hT rfl (by decide) rfl rfl (fun _ _ _ h => h) (by rfl) ?_ hS ?_
              rotate_left
              · intro w hSw; (try dsimp only at hSw); obtain ⟨s1, s2, s3, s4, s5⟩ := hSw; go_simp; (try with_reducible rfl)
              simp only [Act.put, List.setIfInBounds_toArray]; dsimp only [List.set_cons_zero, List.set_cons_succ]
              refine wpAnyN_take_in 75 19 20 40 (v := ?_) hT rfl (by decide) rfl rfl (fun _ _ _ h => h) (by rfl) ?_ hS ?_
              rotate_left
              · intro w hSw; (try dsimp only at hSw); obtain ⟨s1, s2, s3, s4, s5⟩ := hSw; go_simp; (try with_reducible rfl)
              simp only [Act.put, List.setIfInBounds_toArray]; dsimp only [List.set_cons_zero, List.set_cons_succ]
              refine wpAnyN_take_in 75 20 21 41 (v := ?_) hT rfl (by decide) rfl rfl (fun _ _ _ h => h) (by rfl) ?_ hS ?_
              rotate_left
              · intro w hSw; (try dsimp only at hSw); obtain ⟨s1, s2, s3, s4, s5⟩ := hSw; go_simp; (try with_reducible rfl)
              simp only [Act.put, List.setIfInBounds_toArray]; dsimp only [List.set_cons_zero, List.set_cons_succ]
              refine wpAnyN_take_in 75 21 22 42 (v := ?_) hT rfl (by decide) rfl rfl (fun _ _ _ h => h) (by rfl) ?_ hS ?_
              rotate_left
              · intro w hSw; (try dsimp only at hSw); obtain ⟨s1, s2, s3, s4, s5⟩ := hSw; go_simp; (try with_reducible rfl)
              simp only [Act.put, List.setIfInBounds_toArray]; dsimp only [List.set_cons_zero, List.set_cons_succ]
              refine wpAnyN_take_in 75 22 23 43 (v := ?_) hT rfl (by decide) rfl rfl (fun _ _ _ h => h) (by rfl) ?_ hS ?_
              rotate_left
              · intro w hSw; (try dsimp only at hSw); obtain ⟨s1, s2, s3, s4, s5⟩ := hSw; go_simp; (try with_reducible rfl)
              simp only [Act.put, List.setIfInBounds_toArray]; dsimp only [List.set_cons_zero, List.set_cons_succ]
              refine wpAnyN_take_in 75 23 24 44 (v := ?_) hT rfl (by decide) rfl rfl (fun _ _ _ h => h) (by rfl) ?_ hS ?_
              rotate_left
              · intro w hSw; (try dsimp only at hSw); obtain ⟨s1, s2, s3, s4, s5⟩ := hSw; go_simp; (try with_reducible rfl)
              simp only [Act.put, List.setIfInBounds_toArray]; dsimp only [List.set_cons_zero, List.set_cons_succ]
              as_aux_lemma =>
               refine wpAnyN_take_in 75 24 25 45 (v := ?_) hT rfl (by decide) rfl rfl (fun _ _ _ h => h) (by rfl) ?_ hS ?_
               rotate_left
               · intro w hSw; (try dsimp only at hSw); obtain ⟨s1, s2, s3, s4, s5⟩ := hSw; go_simp; (try with_reducible rfl)
               simp only [Act.put, List.setIfInBounds_toArray]; dsimp only [List.set_cons_zero, List.set_cons_succ]
               refine wpAnyN_take_in 75 25 26 46 (v := ?_) hT rfl (by decide) rfl rfl (fun _ _ _ h => h) (by rfl) ?_ hS ?_
               rotate_left
               · intro w hSw; (try dsimp only at hSw); obtain ⟨s1, s2, s3, s4, s5⟩ := hSw; go_simp; (try with_reducible rfl)
               simp only [Act.put, List.setIfInBounds_toArray]; dsimp only [List.set_cons_zero, List.set_cons_succ]
               refine wpAnyN_take_in 75 26 27 47 (v := ?_) hT rfl (by decide) rfl rfl (fun _ _ _ h => h) (by rfl) ?_ hS ?_
               rotate_left
               · intro w hSw; (try dsimp only at hSw); obtain ⟨s1, s2, s3, s4, s5⟩ := hSw; go_simp; (try with_reducible rfl)
               simp only [Act.put, List.setIfInBounds_toArray]; dsimp only [List.set_cons_zero, List.set_cons_succ]
               refine wpAnyN_take_in 75 27 28 48 (v := ?_) hT rfl (by decide) rfl rfl (fun _ _ _ h => h) (by rfl) ?_ hS ?_
               rotate_left
               · intro w hSw; (try dsimp only at hSw); obtain ⟨s1, s2, s3, s4, s5⟩ := hSw; go_simp; (try with_reducible rfl)
               simp only [Act.put, List.setIfInBounds_toArray]; dsimp only [List.set_cons_zero, List.set_cons_succ]
               refine wpAnyN_take_in 75 28 29 49 (v := ?_) hT rfl (by decide) rfl rfl (fun _ _ _ h => h) (by rfl) ?_ hS ?_
               rotate_left
               · intro w hSw; (try dsimp only at hSw); obtain ⟨s1, s2, s3, s4, s5⟩ := hSw; go_simp; (try with_reducible rfl)
               simp only [Act.put, List.setIfInBounds_toArray]; dsimp only [List.set_cons_zero, List.set_cons_succ]
               refine wpAnyN_take_in 75 29 30 50 (v := ?_) hT rfl (by decide) rfl rfl (fun _ _ _ h => h) (by rfl) ?_ hS ?_
               rotate_left
               · intro w hSw; (try dsimp only at hSw); obtain ⟨s1, s2, s3, s4, s5⟩ := hSw; go_simp; (try with_reducible rfl)
               simp only [Act.put, List.setIfInBounds_toArray]; dsimp only [List.set_cons_zero, List.set_cons_succ]
               refine wpAnyN_take_in 75 30 31 51 (v := ?_) hT rfl (by decide) rfl rfl (fun _ _ _ h => h) (by rfl) ?_ hS ?_
               rotate_left
               · intro w hSw; (try dsimp only at hSw); obtain ⟨s1, s2, s3, s4, s5⟩ := hSw; go_simp; (try with_reducible rfl)
               simp only [Act.put, List.setIfInBounds_toArray]; dsimp only [List.set_cons_zero, List.set_cons_succ]
               refine wpAnyN_take_in 75 31 32 52 (v := ?_) hT rfl (by decide) rfl rfl (fun _ _ _ h => h) (by rfl) ?_ hS ?_
               rotate_left
               · intro w hSw; (try dsimp only at hSw); obtain ⟨s1, s2, s3, s4, s5⟩ := hSw; go_simp; (try with_reducible rfl)
               simp only [Act.put, List.setIfInBounds_toArray]; dsimp only [List.set_cons_zero, List.set_cons_succ]
               refine wpAnyN_take_in 75 32 33 53 (v := ?_) hT rfl (by decide) rfl rfl (fun _ _ _ h => h) (by rfl) ?_ hS ?_
               rotate_left
               · intro w hSw; (try dsimp only at hSw); obtain ⟨s1, s2, s3, s4, s5⟩ := hSw; go_simp; (try with_reducible rfl)
               simp only [Act.put, List.setIfInBounds_toArray]; dsimp only [List.set_cons_zero, List.set_cons_succ]
               refine wpAnyN_take_in 75 33 34 54 (v := ?_) hT rfl (by decide) rfl rfl (fun _ _ _ h => h) (by rfl) ?_ hS ?_
               rotate_left
               · intro w hSw; (try dsimp only at hSw); obtain ⟨s1, s2, s3, s4, s5⟩ := hSw; go_simp; (try with_reducible rfl)
               simp only [Act.put, List.setIfInBounds_toArray]; dsimp only [List.set_cons_zero, List.set_cons_succ]
               refine wpAnyN_take_in 75 34 35 55 (v := ?_) hT rfl (by decide) rfl rfl (fun _ _ _ h => h) (by rfl) ?_ hS ?_
               rotate_left
               · intro w hSw; (try dsimp only at hSw); obtain ⟨s1, s2, s3, s4, s5⟩ := hSw; go_simp; (try with_reducible rfl)
               simp only [Act.put, List.setIfInBounds_toArray]; dsimp only [List.set_cons_zero, List.set_cons_succ]
               refine wpAnyN_take_in 75 35 36 56 (v := ?_) hT rfl (by decide) rfl rfl (fun _ _ _ h => h) (by rfl) ?_ hS ?_
               rotate_left
               · intro w hSw; (try dsimp only at hSw); obtain ⟨s1, s2, s3, s4, s5⟩ := hSw; go_simp; (try with_reducible rfl)
               simp only [Act.put, List.setIfInBounds_toArray]; dsimp only [List.set_cons_zero, List.set_cons_succ]
               as_aux_lemma =>
                refine wpAnyN_take_in 75 36 37 57 (v := ?_) hT rfl (by decide) rfl rfl (fun _ _ _ h => h) (by rfl) ?_ hS ?_
                rotate_left
                · intro w hSw; (try dsimp only at hSw); obtain ⟨s1, s2, s3, s4, s5⟩ := hSw; go_simp; (try with_reducible rfl)
                simp only [Act.put, List.setIfInBounds_toArray]; dsimp only [List.set_cons_zero, List.set_cons_succ]
                refine wpAnyN_take_in 75 37 38 58 (v := ?_) hT rfl (by decide) rfl rfl (fun _ _ _ h => h) (by rfl) ?_ hS ?_
                rotate_left
                · intro w hSw; (try dsimp only at hSw); obtain ⟨s1, s2, s3, s4, s5⟩ := hSw; go_simp; (try with_reducible rfl)
                simp only [Act.put, List.setIfInBounds_toArray]; dsimp only [List.set_cons_zero, List.set_cons_succ]
                refine wpAnyN_take_in 75 38 39 59 (v := ?_) hT rfl (by decide) rfl rfl (fun _ _ _ h => h) (by rfl) ?_ hS ?_
                rotate_left
                · intro w hSw; (try dsimp only at hSw); obtain ⟨s1, s2, s3, s4, s5⟩ := hSw; go_simp; (try with_reducible rfl)
                simp only [Act.put, List.setIfInBounds_toArray]; dsimp only [List.set_cons_zero, List.set_cons_succ]
                refine wpAnyN_take_in 75 39 40 60 (v := ?_) hT rfl (by decide) rfl rfl (fun _ _ _ h => h) (by rfl) ?_ hS ?_
                rotate_left
                · intro w hSw; (try dsimp only at hSw); obtain ⟨s1, s2, s3, s4, s5⟩ := hSw; go_simp; (try with_reducible rfl)
                simp only [Act.put, List.setIfInBounds_toArray]; dsimp only [List.set_cons_zero, List.set_cons_succ]
                refine wpAnyN_take_in 75 40 41 61 (v := ?_) hT rfl (by decide) rfl rfl (fun _ _ _ h => h) (by rfl) ?_ hS ?_
                rotate_left
                · intro w hSw; (try dsimp only at hSw); obtain ⟨s1, s2, s3, s4, s5⟩ := hSw; go_simp; (try with_reducible rfl)
                simp only [Act.put, List.setIfInBounds_toArray]; dsimp only [List.set_cons_zero, List.set_cons_succ]
                refine wpAnyN_take_in 75 41 42 62 (v := ?_) hT rfl (by decide) rfl rfl (fun _ _ _ h => h) (by rfl) ?_ hS ?_
                rotate_left
                · intro w hSw; (try dsimp only at hSw); obtain ⟨s1, s2, s3, s4, s5⟩ := hSw; go_simp; (try with_reducible rfl)
                simp only [Act.put, List.setIfInBounds_toArray]; dsimp only [List.set_cons_zero, List.set_cons_succ]
                refine wpAnyN_take_in 75 42 43 63 (v := ?_) hT rfl (by decide) rfl rfl (fun _ _ _ h => h) (by rfl) ?_ hS ?_
                rotate_left
                · intro w hSw; (try dsimp only at hSw); obtain ⟨s1, s2, s3, s4, s5⟩ := hSw; go_simp; (try with_reducible rfl)
                simp only [Act.put, List.setIfInBounds_toArray]; dsimp only [List.set_cons_zero, List.set_cons_succ]
                refine wpAnyN_take_in 75 43 44 64 (v := ?_) hT rfl (by decide) rfl rfl (fun _ _ _ h => h) (by rfl) ?_ hS ?_
                rotate_left
                · intro w hSw; (try dsimp only at hSw); obtain ⟨s1, s2, s3, s4, s5⟩ := hSw; go_simp; (try with_reducible rfl)
                simp only [Act.put, List.setIfInBounds_toArray]; dsimp only [List.set_cons_zero, List.set_cons_succ]
                refine wpAnyN_take_in 75 44 45 65 (v := ?_) hT rfl (by decide) rfl rfl (fun _ _ _ h => h) (by rfl) ?_ hS ?_
                rotate_left
                · intro w hSw; (try dsimp only at hSw); obtain ⟨s1, s2, s3, s4, s5⟩ := hSw; go_simp; (try with_reducible rfl)
                simp only [Act.put, List.setIfInBounds_toArray]; dsimp only [List.set_cons_zero, List.set_cons_succ]
                refine wpAnyN_take_in 75 45 46 66 (v := ?_) hT rfl (by decide) rfl rfl (fun _ _ _ h => h) (by rfl) ?_ hS ?_
                rotate_left
                · intro w hSw; (try dsimp only at hSw); obtain ⟨s1, s2, s3, s4, s5⟩ := hSw; go_simp; (try with_reducible rfl)
                simp only [Act.put, List.setIfInBounds_toArray]; dsimp only [List.set_cons_zero, List.set_cons_succ]
                refine wpAnyN_take_in 75 46 47 67 (v := ?_) hT rfl (by decide) rfl rfl (fun _ _ _ h => h) (by rfl) ?_ hS ?_
                rotate_left
                · intro w hSw; (try dsimp only at hSw); obtain ⟨s1, s2, s3, s4, s5⟩ := hSw; go_simp; (try with_reducible rfl)
                simp only [Act.put, List.setIfInBounds_toArray]; dsimp only [List.set_cons_zero, List.set_cons_succ]
                refine wpAnyN_take_in 75 47 48 68 (v := ?_) hT rfl (by decide) rfl rfl (fun _ _ _ h => h) (by rfl) ?_ hS ?_
                rotate_left
                · intro w hSw; (try dsimp only at hSw); obtain ⟨s1, s2, s3, s4, s5⟩ := hSw; go_simp; (try with_reducible rfl)
                simp only [Act.put, List.setIfInBounds_toArray]; dsimp only [List.set_cons_zero, List.set_cons_succ]
                as_aux_lemma =>
                 refine wpAnyN_take_in 75 48 49 69 (v := ?_) hT rfl (by decide) rfl rfl (fun _ _ _ h => h) (by rfl) ?_ hS ?_
                 rotate_left
                 · intro w hSw; (try dsimp only at hSw); obtain ⟨s1, s2, s3, s4, s5⟩ := hSw; go_simp; (try with_reducible rfl)
                 simp only [Act.put, List.setIfInBounds_toArray]; dsimp only [List.set_cons_zero, List.set_cons_succ]
                 refine wpAnyN_take_in 75 49 50 70 (v := ?_) hT rfl (by decide) rfl rfl (fun _ _ _ h => h) (by rfl) ?_ hS ?_
                 rotate_left
                 · intro w hSw; (try dsimp only at hSw); obtain ⟨s1, s2, s3, s4, s5⟩ := hSw; go_simp; (try with_reducible rfl)
                 simp only [Act.put, List.setIfInBounds_toArray]; dsimp only [List.set_cons_zero, List.set_cons_succ]
                 refine wpAnyN_take_in 75 50 51 71 (v := ?_) hT rfl (by decide) rfl rfl (fun _ _ _ h => h) (by rfl) ?_ hS ?_
                 rotate_left
                 · intro w hSw; (try dsimp only at hSw); obtain ⟨s1, s2, s3, s4, s5⟩ := hSw; go_simp; (try with_reducible rfl)
                 simp only [Act.put, List.setIfInBounds_toArray]; dsimp only [List.set_cons_zero, List.set_cons_succ]
                 refine wpAnyN_take_in 75 51 52 72 (v := ?_) hT rfl (by decide) rfl rfl (fun _ _ _ h => h) (by rfl) ?_ hS ?_
                 rotate_left
                 · intro w hSw; (try dsimp only at hSw); obtain ⟨s1, s2, s3, s4, s5⟩ := hSw; go_simp; (try with_reducible rfl)
                 simp only [Act.put, List.setIfInBounds_toArray]; dsimp only [List.set_cons_zero, List.set_cons_succ]
                 refine wpAnyN_take_in 75 52 53 73 (v := ?_) hT rfl (by decide) rfl rfl (fun _ _ _ h => h) (by rfl) ?_ hS ?_
                 rotate_left
                 · intro w hSw; (try dsimp only at hSw); obtain ⟨s1, s2, s3, s4, s5⟩ := hSw; go_simp; (try with_reducible rfl)
                 simp only [Act.put, List.setIfInBounds_toArray]; dsimp only [List.set_cons_zero, List.set_cons_succ]
                 refine wpAnyN_take_in 75 53 54 74 (v := ?_) hT rfl (by decide) rfl rfl (fun _ _ _ h => h) (by rfl) ?_ hS ?_
                 rotate_left
                 · intro w hSw; (try dsimp only at hSw); obtain ⟨s1, s2, s3, s4, s5⟩ := hSw; go_simp; (try with_reducible rfl)
                 simp only [Act.put, List.setIfInBounds_toArray]; dsimp only [List.set_cons_zero, List.set_cons_succ]
                 refine wpAnyN_take_in 75 54 55 75 (v := ?_) hT rfl (by decide) rfl rfl (fun _ _ _ h => h) (by rfl) ?_ hS ?_
                 rotate_left
                 · intro w hSw; (try dsimp only at hSw); obtain ⟨s1, s2, s3, s4, s5⟩ := hSw; go_simp; (try with_reducible rfl)
                 simp only [Act.put, List.setIfInBounds_toArray]; dsimp only [List.set_cons_zero, List.set_cons_succ]
                 refine wpAnyN_take_in 75 55 56 76 (v := ?_) hT rfl (by decide) rfl rfl (fun _ _ _ h => h) (by rfl) ?_ hS ?_
                 rotate_left
                 · intro w hSw; (try dsimp only at hSw); obtain ⟨s1, s2, s3, s4, s5⟩ := hSw; go_simp; (try with_reducible rfl)
                 simp only [Act.put, List.setIfInBounds_toArray]; dsimp only [List.set_cons_zero, List.set_cons_succ]
                 refine wpAnyN_take_in 75 56 57 77 (v := ?_) hT rfl (by decide) rfl rfl (fun _ _ _ h => h) (by rfl) ?_ hS ?_
                 rotate_left
                 · intro w hSw; (try dsimp only at hSw); obtain ⟨s1, s2, s3, s4, s5⟩ := hSw; go_simp; (try with_reducible rfl)
                 simp only [Act.put, List.setIfInBounds_toArray]; dsimp only [List.set_cons_zero, List.set_cons_succ]
                 refine wpAnyN_take_in 75 57 58 78 (v := ?_) hT rfl (by decide) rfl rfl (fun _ _ _ h => h) (by rfl) ?_ hS ?_
                 rotate_left
                 · intro w hSw; (try dsimp only at hSw); obtain ⟨s1, s2, s3, s4, s5⟩ := hSw; go_simp; (try with_reducible rfl)
                 simp only [Act.put, List.setIfInBounds_toArray]; dsimp only [List.set_cons_zero, List.set_cons_succ]
                 refine wpAnyN_take_in 75 58 59 79 (v := ?_) hT rfl (by decide) rfl rfl (fun _ _ _ h => h) (by rfl) ?_ hS ?_
                 rotate_left
                 · intro w hSw; (try dsimp only at hSw); obtain ⟨s1, s2, s3, s4, s5⟩ := hSw; go_simp; (try with_reducible rfl)
                 simp only [Act.put, List.setIfInBounds_toArray]; dsimp only [List.set_cons_zero, List.set_cons_succ]
                 refine wpAnyN_take_in 75 59 60 80 (v := ?_) hT rfl (by decide) rfl rfl (fun _ _ _ h => h) (by rfl) ?_ hS ?_
                 rotate_left
                 · intro w hSw; (try dsimp only at hSw); obtain ⟨s1, s2, s3, s4, s5⟩ := hSw; go_simp; (try with_reducible rfl)
                 simp only [Act.put, List.setIfInBounds_toArray]; dsimp only [List.set_cons_zero, List.set_cons_succ]
                 as_aux_lemma =>
                  refine wpAnyN_take_in 75 60 61 81 (v := ?_) hT rfl (by decide) rfl rfl (fun _ _ _ h => h) (by rfl) ?_ hS ?_
                  rotate_left
                  · intro w hSw; (try dsimp only at hSw); obtain ⟨s1, s2, s3, s4, s5⟩ := hSw; go_simp; (try with_reducible rfl)
                  simp only [Act.put, List.setIfInBounds_toArray]; dsimp only [List.set_cons_zero, List.set_cons_succ]
                  refine wpAnyN_take_in 75 61 62 82 (v := ?_) hT rfl (by decide) rfl rfl (fun _ _ _ h => h) (by rfl) ?_ hS ?_
                  rotate_left
                  · intro w hSw; (try dsimp only at hSw); obtain ⟨s1, s2, s3, s4, s5⟩ := hSw; go_simp; (try with_reducible rfl)
                  simp only [Act.put, List.setIfInBounds_toArray]; dsimp only [List.set_cons_zero, List.set_cons_succ]
                  refine wpAnyN_take_in 75 62 63 83 (v := ?_) hT rfl (by decide) rfl rfl (fun _ _ _ h => h) (by rfl) ?_ hS ?_
                  rotate_left
                  · intro w hSw; (try dsimp only at hSw); obtain ⟨s1, s2, s3, s4, s5⟩ := hSw; go_simp; (try with_reducible rfl)
                  simp only [Act.put, List.setIfInBounds_toArray]; dsimp only [List.set_cons_zero, List.set_cons_succ]
                  refine wpAnyN_take_in 75 63 64 84 (v := ?_) hT rfl (by decide) rfl rfl (fun _ _ _ h => h) (by rfl) ?_ hS ?_
                  rotate_left
                  · intro w hSw; (try dsimp only at hSw); obtain ⟨s1, s2, s3, s4, s5⟩ := hSw; go_simp; (try with_reducible rfl)
                  simp only [Act.put, List.setIfInBounds_toArray]; dsimp only [List.set_cons_zero, List.set_cons_succ]
                  refine wpAnyN_take_in 75 64 65 85 (v := ?_) hT rfl (by decide) rfl rfl (fun _ _ _ h => h) (by rfl) ?_ hS ?_
                  rotate_left
                  · intro w hSw; (try dsimp only at hSw); obtain ⟨s1, s2, s3, s4, s5⟩ := hSw; go_simp; (try with_reducible rfl)
                  simp only [Act.put, List.setIfInBounds_toArray]; dsimp only [List.set_cons_zero, List.set_cons_succ]
                  refine wpAnyN_take_in 75 65 66 86 (v := ?_) hT rfl (by decide) rfl rfl (fun _ _ _ h => h) (by rfl) ?_ hS ?_
                  rotate_left
                  · intro w hSw; (try dsimp only at hSw); obtain ⟨s1, s2, s3, s4, s5⟩ := hSw; go_simp; (try with_reducible rfl)
                  simp only [Act.put, List.setIfInBounds_toArray]; dsimp only [List.set_cons_zero, List.set_cons_succ]
                  refine wpAnyN_take_in 75 66 67 87 (v := ?_) hT rfl (by decide) rfl rfl (fun _ _ _ h => h) (by rfl) ?_ hS ?_
                  rotate_left
                  · intro w hSw; (try dsimp only at hSw); obtain ⟨s1, s2, s3, s4, s5⟩ := hSw; go_simp; (try with_reducible rfl)
                  simp only [Act.put, List.setIfInBounds_toArray]; dsimp only [List.set_cons_zero, List.set_cons_succ]
                  refine wpAnyN_take_in 75 67 68 88 (v := ?_) hT rfl (by decide) rfl rfl (fun _ _ _ h => h) (by rfl) ?_ hS ?_
                  rotate_left
                  · intro w hSw; (try dsimp only at hSw); obtain ⟨s1, s2, s3, s4, s5⟩ := hSw; go_simp; (try with_reducible rfl)
                  simp only [Act.put, List.setIfInBounds_toArray]; dsimp only [List.set_cons_zero, List.set_cons_succ]
                  refine wpAnyN_take_in 75 68 69 89 (v := ?_) hT rfl (by decide) rfl rfl (fun _ _ _ h => h) (by rfl) ?_ hS ?_
                  rotate_left
                  · intro w hSw; (try dsimp only at hSw); obtain ⟨s1, s2, s3, s4, s5⟩ := hSw; go_simp; (try with_reducible rfl)
                  simp only [Act.put, List.setIfInBounds_toArray]; dsimp only [List.set_cons_zero, List.set_cons_succ]
                  refine wpAnyN_take_in 75 69 70 90 (v := ?_) hT rfl (by decide) rfl rfl (fun _ _ _ h => h) (by rfl) ?_ hS ?_
                  rotate_left
                  · intro w hSw; (try dsimp only at hSw); obtain ⟨s1, s2, s3, s4, s5⟩ := hSw; go_simp; (try with_reducible rfl)
                  simp only [Act.put, List.setIfInBounds_toArray]; dsimp only [List.set_cons_zero, List.set_cons_succ]
                  refine wpAnyN_take_in 75 70 71 91 (v := ?_) hT rfl (by decide) rfl rfl (fun _ _ _ h => h) (by rfl) ?_ hS ?_
                  rotate_left
                  · intro w hSw; (try dsimp only at hSw); obtain ⟨s1, s2, s3, s4, s5⟩ := hSw; go_simp; (try with_reducible rfl)
                  simp only [Act.put, List.setIfInBounds_toArray]; dsimp only [List.set_cons_zero, List.set_cons_succ]
                  refine wpAnyN_take_in 75 71 72 92 (v := ?_) hT rfl (by decide) rfl rfl (fun _ _ _ h => h) (by rfl) ?_ hS ?_
                  rotate_left
                  · intro w hSw; (try dsimp only at hSw); obtain ⟨s1, s2, s3, s4, s5⟩ := hSw; go_simp; (try with_reducible rfl)
                  simp only [Act.put, List.setIfInBounds_toArray]; dsimp only [List.set_cons_zero, List.set_cons_succ]
                  as_aux_lemma =>
                   refine wpAnyN_take_in 75 72 73 93 (v := ?_) hT rfl (by decide) rfl rfl (fun _ _ _ h => h) (by rfl) ?_ hS ?_
                   rotate_left
                   · intro w hSw; (try dsimp only at hSw); obtain ⟨s1, s2, s3, s4, s5⟩ := hSw; go_simp; (try with_reducible rfl)
                   simp only [Act.put, List.setIfInBounds_toArray]; dsimp only [List.set_cons_zero, List.set_cons_succ]
                   refine wpAnyN_take_in 75 73 74 94 (v := ?_) hT rfl (by decide) rfl rfl (fun _ _ _ h => h) (by rfl) ?_ hS ?_
                   rotate_left
                   · intro w hSw; (try dsimp only at hSw); obtain ⟨s1, s2, s3, s4, s5⟩ := hSw; go_simp; (try with_reducible rfl)
                   simp only [Act.put, List.setIfInBounds_toArray]; dsimp only [List.set_cons_zero, List.set_cons_succ]
                   refine wpAnyN_take_in 75 74 75 95 (v := ?_) hT rfl (by decide) rfl rfl (fun _ _ _ h => h) (by rfl) ?_ hS ?_
                   rotate_left
                   · intro w hSw; (try dsimp only at hSw); obtain ⟨s1, s2, s3, s4, s5⟩ := hSw; go_simp; (try with_reducible rfl)
                   simp only [Act.put, List.setIfInBounds_toArray]; dsimp only [List.set_cons_zero, List.set_cons_succ]
                   as_aux_lemma =>
                    refine wpAnyN_rest 75 [] rfl (by kernel_rfl) (by kernel_rfl) ?_
                    clear hS
                    go_wp2
                    go_roundw
                    case rel => exact ⟨k + 1, _, by go_num, by rw [HNT.out]; go_num, (by have := HP.out; omega), rfl⟩
                    case measure => simp [intOf]; omega
        | true =>
          rw [hdv] at x1 hnt
          obtain rfl : L = 0 := hl1 hdv
          simp only [if_true, Nat.zero_add] at hnt
          clear hdv hl1 hl2 hd2 hnl
          go_wp2_with fail
          have hS : (w2.drewN nd).drew.cell? ⟨b, o, none⟩ = some (.int .i64 d) ∧ (w2.drewN nd).drew.cell? ⟨b, o + 1, none⟩ = some (.bool true) ∧ (w2.drewN nd).drew.cell? ⟨b, o + 4, none⟩ = some (.slice A3 0 c3) ∧ (w2.drewN nd).drew.cell? ⟨b, o2, none⟩ = some (.int .i64 d2) ∧ (w2.drewN nd).drew.cell? ⟨b, o2 + 1, none⟩ = some (.bool dv2) := ⟨x0, x1, x4, y0, y1⟩
          refine wp_region_T (n := 75) (fun W => W.cell? ⟨b, o, none⟩ = some (.int .i64 d) ∧ W.cell? ⟨b, o + 1, none⟩ = some (.bool true) ∧ W.cell? ⟨b, o + 4, none⟩ = some (.slice A3 0 c3) ∧ W.cell? ⟨b, o2, none⟩ = some (.int .i64 d2) ∧ W.cell? ⟨b, o2 + 1, none⟩ = some (.bool dv2)) (by kernel_rfl) (by kernel_rfl) ?_
          intro hT
          as_aux_lemma =>
           refine wpAnyN_take_in 75 0 1 21 (v := ?_) hT rfl (by decide) rfl rfl (fun _ _ _ h => h) (by rfl) ?_ hS ?_
           rotate_left
           · intro w hSw; (try dsimp only at hSw); obtain ⟨s1, s2, s3, s4, s5⟩ := hSw; go_simp; (try with_reducible rfl)
           simp only [Act.put, List.setIfInBounds_toArray]; dsimp only [List.set_cons_zero, List.set_cons_succ]
           refine wpAnyN_take_in 75 1 2 22 (v := ?_) hT rfl (by decide) rfl rfl (fun _ _ _ h => h) (by rfl) ?_ hS ?_
           rotate_left
           · intro w hSw; (try dsimp only at hSw); obtain ⟨s1, s2, s3, s4, s5⟩ := hSw; go_simp; (try with_reducible rfl)
           simp only [Act.put, List.setIfInBounds_toArray]; dsimp only [List.set_cons_zero, List.set_cons_succ]
           refine wpAnyN_take_in 75 2 3 23 (v := ?_) hT rfl (by decide) rfl rfl (fun _ _ _ h => h) (by rfl) ?_ hS ?_
           rotate_left
           · intro w hSw; (try dsimp only at hSw); obtain ⟨s1, s2, s3, s4, s5⟩ := hSw; go_simp; (try with_reducible rfl)
           simp only [Act.put, List.setIfInBounds_toArray]; dsimp only [List.set_cons_zero, List.set_cons_succ]
           refine wpAnyN_take_in 75 3 4 24 (v := ?_) hT rfl (by decide) rfl rfl (fun _ _ _ h => h) (by rfl) ?_ hS ?_
           rotate_left
           · intro w hSw; (try dsimp only at hSw); obtain ⟨s1, s2, s3, s4, s5⟩ := hSw; go_simp; (try with_reducible rfl)
           simp only [Act.put, List.setIfInBounds_toArray]; dsimp only [List.set_cons_zero, List.set_cons_succ]
           refine wpAnyN_take_in 75 4 5 25 (v := ?_) hT rfl (by decide) rfl rfl (fun _ _ _ h => h) (by rfl) ?_ hS ?_
           rotate_left
           · intro w hSw; (try dsimp only at hSw); obtain ⟨s1, s2, s3, s4, s5⟩ := hSw; go_simp; (try with_reducible rfl)
           simp only [Act.put, List.setIfInBounds_toArray]; dsimp only [List.set_cons_zero, List.set_cons_succ]
           refine wpAnyN_take_in 75 5 6 26 (v := ?_) hT rfl (by decide) rfl rfl (fun _ _ _ h => h) (by rfl) ?_ hS ?_
           rotate_left
           · intro w hSw; (try dsimp only at hSw); obtain ⟨s1, s2, s3, s4, s5⟩ := hSw; go_simp; (try with_reducible rfl)
           simp only [Act.put, List.setIfInBounds_toArray]; dsimp only [List.set_cons_zero, List.set_cons_succ]
           refine wpAnyN_take_in 75 6 7 27 (v := ?_) hT rfl (by decide) rfl rfl (fun _ _ _ h => h) (by rfl) ?_ hS ?_
           rotate_left
           · intro w hSw; (try dsimp only at hSw); obtain ⟨s1, s2, s3, s4, s5⟩ := hSw; go_simp; (try with_reducible rfl)
           simp only [Act.put, List.setIfInBounds_toArray]; dsimp only [List.set_cons_zero, List.set_cons_succ]
           refine wpAnyN_take_in 75 7 8 28 (v := ?_) hT rfl (by decide) rfl rfl (fun _ _ _ h => h) (by rfl) ?_ hS ?_
           rotate_left
           · intro w hSw; (try dsimp only at hSw); obtain ⟨s1, s2, s3, s4, s5⟩ := hSw; go_simp; (try with_reducible rfl)
           simp only [Act.put, List.setIfInBounds_toArray]; dsimp only [List.set_cons_zero, List.set_cons_succ]
           refine wpAnyN_take_in 75 8 9 29 (v := ?_) hT rfl (by decide) rfl rfl (fun _ _ _ h => h) (by rfl) ?_ hS ?_
           rotate_left
           · intro w hSw; (try dsimp only at hSw); obtain ⟨s1, s2, s3, s4, s5⟩ := hSw; go_simp; (try with_reducible rfl)
           simp only [Act.put, List.setIfInBounds_toArray]; dsimp only [List.set_cons_zero, List.set_cons_succ]
           refine wpAnyN_take_in 75 9 10 30 (v := ?_) hT rfl (by decide) rfl rfl (fun _ _ _ h => h) (by rfl) ?_ hS ?_
           rotate_left
           · intro w hSw; (try dsimp only at hSw); obtain ⟨s1, s2, s3, s4, s5⟩ := hSw; go_simp; (try with_reducible rfl)
           simp only [Act.put, List.setIfInBounds_toArray]; dsimp only [List.set_cons_zero, List.set_cons_succ]
           refine wpAnyN_take_in 75 10 11 31 (v := ?_) hT rfl (by decide) rfl rfl (fun _ _ _ h => h) (by rfl) ?_ hS ?_
           rotate_left
           · intro w hSw; (try dsimp only at hSw); obtain ⟨s1, s2, s3, s4, s5⟩ := hSw; go_simp; (try with_reducible rfl)
           simp only [Act.put, List.setIfInBounds_toArray]; dsimp only [List.set_cons_zero, List.set_cons_succ]
           refine wpAnyN_take_in 75 11 12 32 (v := ?_) hT rfl (by decide) rfl rfl (fun _ _ _ h => h) (by rfl) ?_ hS ?_
           rotate_left
           · intro w hSw; (try dsimp only at hSw); obtain ⟨s1, s2, s3, s4, s5⟩ := hSw; go_simp; (try with_reducible rfl)
           simp only [Act.put, List.setIfInBounds_toArray]; dsimp only [List.set_cons_zero, List.set_cons_succ]
           as_aux_lemma =>
            refine wpAnyN_take_in 75 12 13 33 (v := ?_) hT rfl (by decide) rfl rfl (fun _ _ _ h => h) (by rfl) ?_ hS ?_
            rotate_left
            · intro w hSw; (try dsimp only at hSw); obtain ⟨s1, s2, s3, s4, s5⟩ := hSw; go_simp; (try with_reducible rfl)
            simp only [Act.put, List.setIfInBounds_toArray]; dsimp only [List.set_cons_zero, List.set_cons_succ]
            refine wpAnyN_take_in 75 13 14 34 (v := ?_) hT rfl (by decide) rfl rfl (fun _ _ _ h => h) (by rfl) ?_ hS ?_
            rotate_left
            · intro w hSw; (try dsimp only at hSw); obtain ⟨s1, s2, s3, s4, s5⟩ := hSw; go_simp; (try with_reducible rfl)
            simp only [Act.put, List.setIfInBounds_toArray]; dsimp only [List.set_cons_zero, List.set_cons_succ]
            refine wpAnyN_take_in 75 14 15 35 (v := ?_) hT rfl (by decide) rfl rfl (fun _ _ _ h => h) (by rfl) ?_ hS ?_
            rotate_left
            · intro w hSw; (try dsimp only at hSw); obtain ⟨s1, s2, s3, s4, s5⟩ := hSw; go_simp; (try with_reducible rfl)
            simp only [Act.put, List.setIfInBounds_toArray]; dsimp only [List.set_cons_zero, List.set_cons_succ]
            refine wpAnyN_take_in 75 15 16 36 (v := ?_) hT rfl (by decide) rfl rfl (fun _ _ _ h => h) (by rfl) ?_ hS ?_
            rotate_left
            · intro w hSw; (try dsimp only at hSw); obtain ⟨s1, s2, s3, s4, s5⟩ := hSw; go_simp; (try with_reducible rfl)
            simp only [Act.put, List.setIfInBounds_toArray]; dsimp only [List.set_cons_zero, List.set_cons_succ]
            refine wpAnyN_take_in 75 16 17 37 (v := ?_) hT rfl (by decide) rfl rfl (fun _ _ _ h => h) (by rfl) ?_ hS ?_
            rotate_left
            · intro w hSw; (try dsimp only at hSw); obtain ⟨s1, s2, s3, s4, s5⟩ := hSw; go_simp; (try with_reducible rfl)
            simp only [Act.put, List.setIfInBounds_toArray]; dsimp only [List.set_cons_zero, List.set_cons_succ]
            refine wpAnyN_take_in 75 17 18 38 (v := ?_) hT rfl (by decide) rfl rfl (fun _ _ _ h => h) (by rfl) ?_ hS ?_
            rotate_left
            · intro w hSw; (try dsimp only at hSw); obtain ⟨s1, s2, s3, s4, s5⟩ := hSw; go_simp; (try with_reducible rfl)
            simp only [Act.put, List.setIfInBounds_toArray]; dsimp only [List.set_cons_zero, List.set_cons_succ]
            refine wpAnyN_take_in 75 18 19 39 (v := ?_) hT rfl (by decide) rfl rfl (fun _ _ _ h => h) (by rfl) ?_ hS ?_
            rotate_left
            · intro w hSw; (try dsimp only at hSw); obtain ⟨s1, s2, s3, s4, s5⟩ := hSw; go_simp; (try with_reducible rfl)
            simp only [Act.put, List.setIfInBounds_toArray]; dsimp only [List.set_cons_zero, List.set_cons_succ]
            refine wpAnyN_take_in 75 19 20 40 (v := ?_) hT rfl (by decide) rfl rfl (fun _ _ _ h => h) (by rfl) ?_ hS ?_
            rotate_left
            · intro w hSw; (try dsimp only at hSw); obtain ⟨s1, s2, s3, s4, s5⟩ := hSw; go_simp; (try with_reducible rfl)
            simp only [Act.put, List.setIfInBounds_toArray]; dsimp only [List.set_cons_zero, List.set_cons_succ]
            refine wpAnyN_take_in 75 20 21 41 (v := ?_) hT rfl (by decide) rfl rfl (fun _ _ _ h => h) (by rfl) ?_ hS ?_
            rotate_left
            · intro w hSw; (try dsimp only at hSw); obtain ⟨s1, s2, s3, s4, s5⟩ := hSw; go_simp; (try with_reducible rfl)
            simp only [Act.put, List.setIfInBounds_toArray]; dsimp only [List.set_cons_zero, List.set_cons_succ]
            refine wpAnyN_take_in 75 21 22 42 (v := ?_) hT rfl (by decide) rfl rfl (fun _ _ _ h => h) (by rfl) ?_ hS ?_
            rotate_left
            · intro w hSw; (try dsimp only at hSw); obtain ⟨s1, s2, s3, s4, s5⟩ := hSw; go_simp; (try with_reducible rfl)
            simp only [Act.put, List.setIfInBounds_toArray]; dsimp only [List.set_cons_zero, List.set_cons_succ]
            refine wpAnyN_take_in 75 22 23 43 (v := ?_) hT rfl (by decide) rfl rfl (fun _ _ _ h => h) (by rfl) ?_ hS ?_
            rotate_left
            · intro w hSw; (try dsimp only at hSw); obtain ⟨s1, s2, s3, s4, s5⟩ := hSw; go_simp; (try with_reducible rfl)
            simp only [Act.put, List.setIfInBounds_toArray]; dsimp only [List.set_cons_zero, List.set_cons_succ]
            refine wpAnyN_take_in 75 23 24 44 (v := ?_) hT rfl (by decide) rfl rfl (fun _ _ _ h => h) (by rfl) ?_ hS ?_
            rotate_left
            · intro w hSw; (try dsimp only at hSw); obtain ⟨s1, s2, s3, s4, s5⟩ := hSw; go_simp; (try with_reducible rfl)
            simp only [Act.put, List.setIfInBounds_toArray]; dsimp only [List.set_cons_zero, List.set_cons_succ]
            as_aux_lemma =>
             refine wpAnyN_take_in 75 24 25 45 (v := ?_) hT rfl (by decide) rfl rfl (fun _ _ _ h => h) (by rfl) ?_ hS ?_
             rotate_left
             · intro w hSw; (try dsimp only at hSw); obtain ⟨s1, s2, s3, s4, s5⟩ := hSw; go_simp; (try with_reducible rfl)
             simp only [Act.put, List.setIfInBounds_toArray]; dsimp only [List.set_cons_zero, List.set_cons_succ]
             refine wpAnyN_take_in 75 25 26 46 (v := ?_) hT rfl (by decide) rfl rfl (fun _ _ _ h => h) (by rfl) ?_ hS ?_
             rotate_left
             · intro w hSw; (try dsimp only at hSw); obtain ⟨s1, s2, s3, s4, s5⟩ := hSw; go_simp; (try with_reducible rfl)
             simp only [Act.put, List.setIfInBounds_toArray]; dsimp only [List.set_cons_zero, List.set_cons_succ]
             refine wpAnyN_take_in 75 26 27 47 (v := ?_) hT rfl (by decide) rfl rfl (fun _ _ _ h => h) (by rfl) ?_ hS ?_
             rotate_left
             · intro w hSw; (try dsimp only at hSw); obtain ⟨s1, s2, s3, s4, s5⟩ := hSw; go_simp; (try with_reducible rfl)
             simp only [Act.put, List.setIfInBounds_toArray]; dsimp only [List.set_cons_zero, List.set_cons_succ]
             refine wpAnyN_take_in 75 27 28 48 (v := ?_) hT rfl (by decide) rfl rfl (fun _ _ _ h => h) (by rfl) ?_ hS ?_
             rotate_left
             · intro w hSw; (try dsimp only at hSw); obtain ⟨s1, s2, s3, s4, s5⟩ := hSw; go_simp; (try with_reducible rfl)
             simp only [Act.put, List.setIfInBounds_toArray]; dsimp only [List.set_cons_zero, List.set_cons_succ]
             refine wpAnyN_take_in 75 28 29 49 (v := ?_) hT rfl (by decide) rfl rfl (fun _ _ _ h => h) (by rfl) ?_ hS ?_
             rotate_left
             · intro w hSw; (try dsimp only at hSw); obtain ⟨s1, s2, s3, s4, s5⟩ := hSw; go_simp; (try with_reducible rfl)
             simp only [Act.put, List.setIfInBounds_toArray]; dsimp only [List.set_cons_zero, List.set_cons_succ]
             refine wpAnyN_take_in 75 29 30 50 (v := ?_) hT rfl (by decide) rfl rfl (fun _ _ _ h => h) (by rfl) ?_ hS ?_
             rotate_left
             · intro w hSw; (try dsimp only at hSw); obtain ⟨s1, s2, s3, s4, s5⟩ := hSw; go_simp; (try with_reducible rfl)
             simp only [Act.put, List.setIfInBounds_toArray]; dsimp only [List.set_cons_zero, List.set_cons_succ]
             refine wpAnyN_take_in 75 30 31 51 (v := ?_) hT rfl (by decide) rfl rfl (fun _ _ _ h => h) (by rfl) ?_ hS ?_
             rotate_left
             · intro w hSw; (try dsimp only at hSw); obtain ⟨s1, s2, s3, s4, s5⟩ := hSw; go_simp; (try with_reducible rfl)
             simp only [Act.put, List.setIfInBounds_toArray]; dsimp only [List.set_cons_zero, List.set_cons_succ]
             refine wpAnyN_take_in 75 31 32 52 (v := ?_) hT rfl (by decide) rfl rfl (fun _ _ _ h => h) (by rfl) ?_ hS ?_
             rotate_left
             · intro w hSw; (try dsimp only at hSw); obtain ⟨s1, s2, s3, s4, s5⟩ := hSw; go_simp; (try with_reducible rfl)
             simp only [Act.put, List.setIfInBounds_toArray]; dsimp only [List.set_cons_zero, List.set_cons_succ]
             refine wpAnyN_take_in 75 32 33 53 (v := ?_) hT rfl (by decide) rfl rfl (fun _ _ _ h => h) (by rfl) ?_ hS ?_
             rotate_left
             · intro w hSw; (try dsimp only at hSw); obtain ⟨s1, s2, s3, s4, s5⟩ := hSw; go_simp; (try with_reducible rfl)
             simp only [Act.put, List.setIfInBounds_toArray]; dsimp only [List.set_cons_zero, List.set_cons_succ]
             refine wpAnyN_take_in 75 33 34 54 (v := ?_) hT rfl (by decide) rfl rfl (fun _ _ _ h => h) (by rfl) ?_ hS ?_
             rotate_left
             · intro w hSw; (try dsimp only at hSw); obtain ⟨s1, s2, s3, s4, s5⟩ := hSw; go_simp; (try with_reducible rfl)
             simp only [Act.put, List.setIfInBounds_toArray]; dsimp only [List.set_cons_zero, List.set_cons_succ]
             refine wpAnyN_take_in 75 34 35 55 (v := ?_) hT rfl (by decide) rfl rfl (fun _ _ _ h => h) (by rfl) ?_ hS ?_
             rotate_left
             · intro w hSw; (try dsimp only at hSw); obtain ⟨s1, s2, s3, s4, s5⟩ := hSw; go_simp; (try with_reducible rfl)
             simp only [Act.put, List.setIfInBounds_toArray]; dsimp only [List.set_cons_zero, List.set_cons_succ]
             refine wpAnyN_take_in 75 35 36 56 (v := ?_) hT rfl (by decide) rfl rfl (fun _ _ _ h => h) (by rfl) ?_ hS ?_
             rotate_left
             · intro w hSw; (try dsimp only at hSw); obtain ⟨s1, s2, s3, s4, s5⟩ := hSw; go_simp; (try with_reducible rfl)
             simp only [Act.put, List.setIfInBounds_toArray]; dsimp only [List.set_cons_zero, List.set_cons_succ]
             as_aux_lemma =>
              refine wpAnyN_take_in 75 36 37 57 (v := ?_) hT rfl (by decide) rfl rfl (fun _ _ _ h => h) (by rfl) ?_ hS ?_
              rotate_left
              · intro w hSw; (try dsimp only at hSw); obtain ⟨s1, s2, s3, s4, s5⟩ := hSw; go_simp; (try with_reducible rfl)
              simp only [Act.put, List.setIfInBounds_toArray]; dsimp only [List.set_cons_zero, List.set_cons_succ]
              refine wpAnyN_take_in 75 37 38 58 (v := ?_) hT rfl (by decide) rfl rfl (fun _ _ _ h => h) (by rfl) ?_ hS ?_
              rotate_left
              · intro w hSw; (try dsimp only at hSw); obtain ⟨s1, s2, s3, s4, s5⟩ := hSw; go_simp; (try with_reducible rfl)
              simp only [Act.put, List.setIfInBounds_toArray]; dsimp only [List.set_cons_zero, List.set_cons_succ]
              refine wpAnyN_take_in 75 38 39 59 (v := ?_) hT rfl (by decide) rfl rfl (fun _ _ _ h => h) (by rfl) ?_ hS ?_
              rotate_left
              · intro w hSw; (try dsimp only at hSw); obtain ⟨s1, s2, s3, s4, s5⟩ := hSw; go_simp; (try with_reducible rfl)
              simp only [Act.put, List.setIfInBounds_toArray]; dsimp only [List.set_cons_zero, List.set_cons_succ]
              refine wpAnyN_take_in 75 39 40 60 (v := ?_) hT rfl (by decide) rfl rfl (fun _ _ _ h => h) (by rfl) ?_ hS ?_
              rotate_left
              · intro w hSw; (try dsimp only at hSw); obtain ⟨s1, s2, s3, s4, s5⟩ := hSw; go_simp; (try with_reducible rfl)
              simp only [Act.put, List.setIfInBounds_toArray]; dsimp only [List.set_cons_zero, List.set_cons_succ]
              refine wpAnyN_take_in 75 40 41 61 (v := ?_) hT rfl (by decide) rfl rfl (fun _ _ _ h => h) (by rfl) ?_ hS ?_
              rotate_left
              · intro w hSw; (try dsimp only at hSw); obtain ⟨s1, s2, s3, s4, s5⟩ := hSw; go_simp; (try with_reducible rfl)
              simp only [Act.put, List.setIfInBounds_toArray]; dsimp only [List.set_cons_zero, List.set_cons_succ]
              refine wpAnyN_take_in 75 41 42 62 (v := ?_) hT rfl (by decide) rfl rfl (fun _ _ _ h => h) (by rfl) ?_ hS ?_
              rotate_left
              · intro w hSw; (try dsimp only at hSw); obtain ⟨s1, s2, s3, s4, s5⟩ := hSw; go_simp; (try with_reducible rfl)
              simp only [Act.put, List.setIfInBounds_toArray]; dsimp only [List.set_cons_zero, List.set_cons_succ]
              refine wpAnyN_take_in 75 42 43 63 (v := ?_) hT rfl (by decide) rfl rfl (fun _ _ _ h => h) (by rfl) ?_ hS ?_
              rotate_left
              · intro w hSw; (try dsimp only at hSw); obtain ⟨s1, s2, s3, s4, s5⟩ := hSw; go_simp; (try with_reducible rfl)
              simp only [Act.put, List.setIfInBounds_toArray]; dsimp only [List.set_cons_zero, List.set_cons_succ]
              refine wpAnyN_take_in 75 43 44 64 (v := ?_) hT rfl (by decide) rfl rfl (fun _ _ _ h => h) (by rfl) ?_ hS ?_
              rotate_left
              · intro w hSw; (try dsimp only at hSw); obtain ⟨s1, s2, s3, s4, s5⟩ := hSw; go_simp; (try with_reducible rfl)
              simp only [Act.put, List.setIfInBounds_toArray]; dsimp only [List.set_cons_zero, List.set_cons_succ]
              refine wpAnyN_take_in 75 44 45 65 (v := ?_) hT rfl (by decide) rfl rfl (fun _ _ _ h => h) (by rfl) ?_ hS ?_
              rotate_left
              · intro w hSw; (try dsimp only at hSw); obtain ⟨s1, s2, s3, s4, s5⟩ := hSw; go_simp; (try with_reducible rfl)
              simp only [Act.put, List.setIfInBounds_toArray]; dsimp only [List.set_cons_zero, List.set_cons_succ]
              refine wpAnyN_take_in 75 45 46 66 (v := ?_) hT rfl (by decide) rfl rfl (fun _ _ _ h => h) (by rfl) ?_ hS ?_
              rotate_left
              · intro w hSw; (try dsimp only at hSw); obtain ⟨s1, s2, s3, s4, s5⟩ := hSw; go_simp; (try with_reducible rfl)
              simp only [Act.put, List.setIfInBounds_toArray]; dsimp only [List.set_cons_zero, List.set_cons_succ]
              refine wpAnyN_take_in 75 46 47 67 (v := ?_) hT rfl (by decide) rfl rfl (fun _ _ _ h => h) (by rfl) ?_ hS ?_
              rotate_left
              · intro w hSw; (try dsimp only at hSw); obtain ⟨s1, s2, s3, s4, s5⟩ := hSw; go_simp; (try with_reducible rfl)
              simp only [Act.put, List.setIfInBounds_toArray]; dsimp only [List.set_cons_zero, List.set_cons_succ]
              refine wpAnyN_take_in 75 47 48 68 (v := ?_) hT rfl (by decide) rfl rfl (fun _ _ _ h => h) (by rfl) ?_ hS ?_
              rotate_left
              · intro w hSw; (try dsimp only at hSw); obtain ⟨s1, s2, s3, s4, s5⟩ := hSw; go_simp; (try with_reducible rfl)
              simp only [Act.put, List.setIfInBounds_toArray]; dsimp only [List.set_cons_zero, List.set_cons_succ]
              as_aux_lemma =>
               refine wpAnyN_take_in 75 48 49 69 (v := ?_) hT rfl (by decide) rfl rfl (fun _ _ _ h => h) (by rfl) ?_ hS ?_
               rotate_left
               · intro w hSw; (try dsimp only at hSw); obtain ⟨s1, s2, s3, s4, s5⟩ := hSw; go_simp; (try with_reducible rfl)
               simp only [Act.put, List.setIfInBounds_toArray]; dsimp only [List.set_cons_zero, List.set_cons_succ]
               refine wpAnyN_take_in 75 49 50 70 (v := ?_) hT rfl (by decide) rfl rfl (fun _ _ _ h => h) (by rfl) ?_ hS ?_
               rotate_left
               · intro w hSw; (try dsimp only at hSw); obtain ⟨s1, s2, s3, s4, s5⟩ := hSw; go_simp; (try with_reducible rfl)
               simp only [Act.put, List.setIfInBounds_toArray]; dsimp only [List.set_cons_zero, List.set_cons_succ]
               refine wpAnyN_take_in 75 50 51 71 (v := ?_) hT rfl (by decide) rfl rfl (fun _ _ _ h => h) (by rfl) ?_ hS ?_
               rotate_left
               · intro w hSw; (try dsimp only at hSw); obtain ⟨s1, s2, s3, s4, s5⟩ := hSw; go_simp; (try with_reducible rfl)
               simp only [Act.put, List.setIfInBounds_toArray]; dsimp only [List.set_cons_zero, List.set_cons_succ]
               refine wpAnyN_take_in 75 51 52 72 (v := ?_) hT rfl (by decide) rfl rfl (fun _ _ _ h => h) (by rfl) ?_ hS ?_
               rotate_left
               · intro w hSw; (try dsimp only at hSw); obtain ⟨s1, s2, s3, s4, s5⟩ := hSw; go_simp; (try with_reducible rfl)
               simp only [Act.put, List.setIfInBounds_toArray]; dsimp only [List.set_cons_zero, List.set_cons_succ]
               refine wpAnyN_take_inno 75 52 53 73 hT rfl (by decide) rfl rfl (fun _ _ _ h => h) (by rfl) hS ?_
               simp only [Act.put, List.setIfInBounds_toArray]; dsimp only [List.set_cons_zero, List.set_cons_succ]
               refine wpAnyN_take_inno 75 53 54 74 hT rfl (by decide) rfl rfl (fun _ _ _ h => h) (by rfl) hS ?_
               simp only [Act.put, List.setIfInBounds_toArray]; dsimp only [List.set_cons_zero, List.set_cons_succ]
               refine wpAnyN_take_inno 75 54 55 75 hT rfl (by decide) rfl rfl (fun _ _ _ h => h) (by rfl) hS ?_
               simp only [Act.put, List.setIfInBounds_toArray]; dsimp only [List.set_cons_zero, List.set_cons_succ]
               refine wpAnyN_take_inno 75 55 56 76 hT rfl (by decide) rfl rfl (fun _ _ _ h => h) (by rfl) hS ?_
               simp only [Act.put, List.setIfInBounds_toArray]; dsimp only [List.set_cons_zero, List.set_cons_succ]
               refine wpAnyN_take_inno 75 56 57 77 hT rfl (by decide) rfl rfl (fun _ _ _ h => h) (by rfl) hS ?_
               simp only [Act.put, List.setIfInBounds_toArray]; dsimp only [List.set_cons_zero, List.set_cons_succ]
               refine wpAnyN_take_inno 75 57 58 78 hT rfl (by decide) rfl rfl (fun _ _ _ h => h) (by rfl) hS ?_
               simp only [Act.put, List.setIfInBounds_toArray]; dsimp only [List.set_cons_zero, List.set_cons_succ]
               refine wpAnyN_take_inno 75 58 59 79 hT rfl (by decide) rfl rfl (fun _ _ _ h => h) (by rfl) hS ?_
               simp only [Act.put, List.setIfInBounds_toArray]; dsimp only [List.set_cons_zero, List.set_cons_succ]
               refine wpAnyN_take_in 75 59 60 80 (v := ?_) hT rfl (by decide) rfl rfl (fun _ _ _ h => h) (by rfl) ?_ hS ?_
               rotate_left
               · intro w hSw; (try dsimp only at hSw); obtain ⟨s1, s2, s3, s4, s5⟩ := hSw; go_simp; (try with_reducible rfl)
               simp only [Act.put, List.setIfInBounds_toArray]; dsimp only [List.set_cons_zero, List.set_cons_succ]
               as_aux_lemma =>
                refine wpAnyN_take_in 75 60 61 81 (v := ?_) hT rfl (by decide) rfl rfl (fun _ _ _ h => h) (by rfl) ?_ hS ?_
                rotate_left
                · intro w hSw; (try dsimp only at hSw); obtain ⟨s1, s2, s3, s4, s5⟩ := hSw; go_simp; (try with_reducible rfl)
                simp only [Act.put, List.setIfInBounds_toArray]; dsimp only [List.set_cons_zero, List.set_cons_succ]
                refine wpAnyN_take_inno 75 61 62 82 hT rfl (by decide) rfl rfl (fun _ _ _ h => h) (by rfl) hS ?_
                simp only [Act.put, List.setIfInBounds_toArray]; dsimp only [List.set_cons_zero, List.set_cons_succ]
                refine wpAnyN_take_inno 75 62 63 83 hT rfl (by decide) rfl rfl (fun _ _ _ h => h) (by rfl) hS ?_
                simp only [Act.put, List.setIfInBounds_toArray]; dsimp only [List.set_cons_zero, List.set_cons_succ]
                refine wpAnyN_take_inno 75 63 64 84 hT rfl (by decide) rfl rfl (fun _ _ _ h => h) (by rfl) hS ?_
                simp only [Act.put, List.setIfInBounds_toArray]; dsimp only [List.set_cons_zero, List.set_cons_succ]
                refine wpAnyN_take_inno 75 64 65 85 hT rfl (by decide) rfl rfl (fun _ _ _ h => h) (by rfl) hS ?_
                simp only [Act.put, List.setIfInBounds_toArray]; dsimp only [List.set_cons_zero, List.set_cons_succ]
                refine wpAnyN_take_inno 75 65 66 86 hT rfl (by decide) rfl rfl (fun _ _ _ h => h) (by rfl) hS ?_
                simp only [Act.put, List.setIfInBounds_toArray]; dsimp only [List.set_cons_zero, List.set_cons_succ]
                refine wpAnyN_take_inno 75 66 67 87 hT rfl (by decide) rfl rfl (fun _ _ _ h => h) (by rfl) hS ?_
                simp only [Act.put, List.setIfInBounds_toArray]; dsimp only [List.set_cons_zero, List.set_cons_succ]
                refine wpAnyN_take_inno 75 67 68 88 hT rfl (by decide) rfl rfl (fun _ _ _ h => h) (by rfl) hS ?_
                simp only [Act.put, List.setIfInBounds_toArray]; dsimp only [List.set_cons_zero, List.set_cons_succ]
                refine wpAnyN_take_inno 75 68 69 89 hT rfl (by decide) rfl rfl (fun _ _ _ h => h) (by rfl) hS ?_
                simp only [Act.put, List.setIfInBounds_toArray]; dsimp only [List.set_cons_zero, List.set_cons_succ]
                refine wpAnyN_take_inno 75 69 70 90 hT rfl (by decide) rfl rfl (fun _ _ _ h => h) (by rfl) hS ?_
                simp only [Act.put, List.setIfInBounds_toArray]; dsimp only [List.set_cons_zero, List.set_cons_succ]
                refine wpAnyN_take_inno 75 70 71 91 hT rfl (by decide) rfl rfl (fun _ _ _ h => h) (by rfl) hS ?_
                simp only [Act.put, List.setIfInBounds_toArray]; dsimp only [List.set_cons_zero, List.set_cons_succ]
                refine wpAnyN_take_inno 75 71 72 92 hT rfl (by decide) rfl rfl (fun _ _ _ h => h) (by rfl) hS ?_
                simp only [Act.put, List.setIfInBounds_toArray]; dsimp only [List.set_cons_zero, List.set_cons_succ]
                as_aux_lemma =>
                 refine wpAnyN_take_inno 75 72 73 93 hT rfl (by decide) rfl rfl (fun _ _ _ h => h) (by rfl) hS ?_
                 simp only [Act.put, List.setIfInBounds_toArray]; dsimp only [List.set_cons_zero, List.set_cons_succ]
                 refine wpAnyN_take_in 75 73 74 94 (v := ?_) hT rfl (by decide) rfl rfl (fun _ _ _ h => h) (by rfl) ?_ hS ?_
                 rotate_left
                 · intro w hSw; (try dsimp only at hSw); obtain ⟨s1, s2, s3, s4, s5⟩ := hSw; go_simp; (try with_reducible rfl)
                 simp only [Act.put, List.setIfInBounds_toArray]; dsimp only [List.set_cons_zero, List.set_cons_succ]
                 refine wpAnyN_take_in 75 74 75 95 (v := ?_) hT rfl (by decide) rfl rfl (fun _ _ _ h => h) (by rfl) ?_ hS ?_
                 rotate_left
                 · intro w hSw; (try dsimp only at hSw); obtain ⟨s1, s2, s3, s4, s5⟩ := hSw; go_simp; (try with_reducible rfl)
                 simp only [Act.put, List.setIfInBounds_toArray]; dsimp only [List.set_cons_zero, List.set_cons_succ]
                 as_aux_lemma =>
                  refine wpAnyN_rest 75 [] rfl (by kernel_rfl) (by kernel_rfl) ?_
                  clear hS
                  cases hop : opn with
                  | true =>
                    rw [hop] at x3 hnt
                    simp only [if_true] at hnt
                    have HNT := Lib.hid hnt
                    clear hnt hop
                    go_wp2
                    go_roundw
                    case rel => exact ⟨k + 1, _, by go_num, by rw [HNT.out]; go_num, (by have := HP.out; omega), rfl⟩
                    case measure => simp [intOf]; omega
                  | false =>
                    rw [hop] at x3 hnt
                    simp only [Bool.false_eq_true, if_false] at hnt
                    have HNT := Lib.hid hnt
                    clear hnt hop
                    go_wp2
                    go_roundw
                    case rel => exact ⟨k + 1, _, by go_num, by rw [HNT.out]; go_num, (by have := HP.out; omega), rfl⟩
                    case measure => simp [intOf]; omega
    · obtain rfl : k = ps.length := by omega
      have hnn : numOf (ps.take ps.length) = ls.length := by rw [List.take_length]; exact HN.out
      rw [hnn]
      go_wp2
      go_ret
      exact ⟨rfl, below_drewN' HB.out nd⟩

theorem frameDepths_walk (w : World) (hml : MaxL w) (A0 : Option Addr) (c0 : Nat) (z0 : List ByteArray) (r0 : RowOf w A0 c0 (z0.map Value.string)) (w0 : ∀ s ∈ z0, s.size ≤ maxLen) :
    Calls Tryd.prog 7 #[.slice A0 z0.length c0] w fun e w' => e = .returned (.bool true) ∧ Below w.heap.size w w' := by
  unfold maxLen at w0
  have hz : ∀ y ∈ (z0.map fun s => s.data.toList), y.length ≤ 9223372036854775807 := by
    intro y hy
    obtain ⟨s, hs, rfl⟩ := List.mem_map.1 hy
    have := w0 s hs
    have h2 : s.data.toList.length = s.size := by simp
    omega
  rw [strs_of] at r0
  rw [show z0.length = (z0.map fun s => s.data.toList).length from by simp]
  generalize (z0.map fun s => s.data.toList) = ls at *
  cases hp : plainL ls with
  | true => exact frameDepths_short w hml A0 c0 ls r0 hp hz
  | false =>
    have cp := plain_any A0 c0 ls w r0 hz
    rw [hp] at cp
    have HN := Lib.hid hml
    clear hml w0 r0 hz hp
    go_enter Tryd.func7, Tryd.ntmps7
    go_wp2_with fail
    refine cp.mono ?_
    rintro e w1 ⟨rfl, rfl⟩
    go_wp2_with (go_at_call 12; refine (alive6_any _ HN.out).mono ?_; rintro e w3 ⟨rfl, b2⟩)
    all_goals go_ret
    all_goals exact ⟨rfl, b2⟩

end Go.Proofs.YtodnioihadpncaaDoor
