/-
  VeilLines: a line without labels stays as it is; emptied once it stays; the law's walk.
-/
import Derived.Test.YtneiheifjgffaaaGreatDoorVlaD
namespace Go.Proofs.YtneiheifjgffaaaGreatDoor
open Go.RowKit
set_option linter.unusedSimpArgs false
set_option linter.unusedVariables false
set_option maxRecDepth 100000

/-- No sign of a label's begin. -/
def okL : Txt → Bool
  | b :: c :: t => !(b == 123 && (c == 124 || c == 61)) && okL (c :: t)
  | _ => true
theorem okL_iff : ∀ l : Txt, okL l = true ↔ ∀ m (h : m + 1 < l.length), ¬ (l[m] = 123 ∧ (l[m + 1] = 124 ∨ l[m + 1] = 61))
  | [] => by simp [okL]
  | [b] => by simp [okL]
  | b :: c :: t => by
    have ih := okL_iff (c :: t)
    simp only [okL, Bool.and_eq_true, ih]
    constructor
    · rintro ⟨h1, h2⟩ m hm
      cases m with
      | zero =>
        have h3 : ¬ (b = 123 ∧ (c = 124 ∨ c = 61)) := by
          rintro ⟨rfl, rfl | rfl⟩ <;> simp at h1
        exact h3
      | succ m => exact h2 m (by simpa using hm)
    · intro h
      refine ⟨?_, fun m hm => h (m + 1) (by simpa using hm)⟩
      have h0 : ¬ (b = 123 ∧ (c = 124 ∨ c = 61)) := h 0 (by simp)
      by_cases h1 : b = 123 <;> by_cases h2 : c = 124 <;> by_cases h3 : c = 61 <;> simp_all
theorem okL_tail {b : UInt8} {t : Txt} (h : okL (b :: t) = true) : okL t = true := by
  cases t with
  | nil => rfl
  | cons c t => simp only [okL, Bool.and_eq_true] at h; exact h.2
theorem okL_behind : ∀ (a : Txt) {t : Txt}, okL (a ++ t) = true → okL t = true
  | [], _, h => h
  | b :: a, t, h => okL_behind a (okL_tail h)
theorem ok_emp (p : Sv) : ∀ l : Txt, okL l = true → empL p l = l
  | [], _ => rfl
  | b :: t, h => by
    have hs : spanAtL (b :: t) = none := by
      cases hs : spanAtL (b :: t) with
      | none => rfl
      | some c =>
        obtain ⟨lab, txt⟩ := c
        obtain ⟨rest, e, _⟩ := spanAt_shape hs
        obtain ⟨u, hu⟩ := spanTxt_head lab txt
        rw [e, hu] at h
        simp [okL] at h
    rw [empL_none hs, ok_emp p t (okL_tail h)]
theorem ok_line (p : Sv) (l : Txt) (h : okL l = true) : lineL p l = l := by
  rcases line_cases l with ⟨_, hp⟩ | ⟨t, lab, k, e, _, _, _, _⟩
  · rw [hp]; exact ok_emp p l h
  · rw [e] at h
    have := okL_behind t h
    simp [labTail, headB, okL] at this
theorem wrapE (z : Int) : IntKind.i64.wrap z = wrap64 z := by rw [IntKind.wrap_i64]; unfold wrap64; rfl
def PlnRel (l : ByteArray) (w : World) (v i : Value) (wr : World) : Prop :=
  ∃ (k : Nat) (u : Bool), i = .int .i64 k ∧ k ≤ l.size ∧ v = .bool u ∧ (u = true ↔ ∀ m (h : m + 1 < l.size), m < k → ¬ (l[m] = 123 ∧ (l[m + 1] = 124 ∨ l[m + 1] = 61))) ∧ wr = w

set_option maxHeartbeats 8000000 in
theorem veilLines_core (w : World) (h7 : W7 w) (a0 : Int) (a1 : ByteArray) (A2 : Option Addr) (c2 : Nat) (us : List Txt) (r2 : RowOf w A2 c2 (strs us)) (w1 : a1.size ≤ maxLen) :
    Calls Tryz.prog 6 #[.int .i64 a0, .string a1, .slice A2 us.length c2] w fun e w' => e = .returned (.bool true) ∧ Below w.heap.size w w' := by
  have ca := alive7_any w h7
  have l2 := r2.1
  have m2 := r2.2.1
  rw [strs_length] at l2
  unfold maxLen at m2
  by_cases hbig : 200 < a1.size
  · go_enter Tryz.func6, Tryz.ntmps6
    go_wp2_with fail
    refine ca.mono ?_
    rintro e w1 ⟨rfl, b1⟩
    go_wp2
    go_ret
    exact ⟨rfl, b1⟩
  by_cases hbig2 : 5 < us.length
  · go_enter Tryz.func6, Tryz.ntmps6
    go_wp2_with fail
    refine ca.mono ?_
    rintro e w1 ⟨rfl, b1⟩
    go_wp2
    go_ret
    exact ⟨rfl, b1⟩
  have hD : a1.data.toList.length = a1.size := by simp
  have hsz : a1.size ≤ 200 := by omega
  have hu5 : us.length ≤ 5 := by omega
  clear hbig hbig2
  have HR2 := Lib.hid r2
  clear r2
  obtain ⟨j, hj, hm⟩ := mod4 a0
  rw [wrapE] at hm
  go_enter Tryz.func6, Tryz.ntmps6
  go_wp2_with fail
  refine ca.mono ?_
  rintro e w1 ⟨rfl, b1⟩
  have HB1 := Lib.hid b1
  have HW1 := Lib.hid (h7.below b1)
  clear b1 ca h7
  go_wp2_with fail
  refine (diamond_any _).mono ?_
  rintro e w2 ⟨d1, d2, rfl, hd, b2⟩
  obtain ⟨g, off, rfl, hg, hcell⟩ := dia_cell hd j hj
  have HB2 := Lib.hid (HB1.out.then b2)
  have HW2 := Lib.hid (HW1.out.below b2)
  have hb0 : Below w2.heap.size w2 (w2.alloc (.cells #[.slice (some ⟨g, off, none⟩) 4 4, .slice d2 4 4] 26)) := (Below.refl _ w2).alloc (Nat.le_refl _) _
  have hbx := box_cell w2 (.slice (some ⟨g, off, none⟩) 4 4) (.slice d2 4 4) 26
  have hs0 := alloc_size w2 (.cells #[.slice (some ⟨g, off, none⟩) 4 4, .slice d2 4 4] 26)
  have hc0 := (hb0.cell (p := ⟨g, off + j, none⟩) hg).trans hcell
  have HD3 := Lib.hid (hd.below hb0)
  have HW3 := Lib.hid (HW2.out.below hb0)
  have HB3 := Lib.hid (HB2.out.then hb0)
  clear b2 hd hb0 hcell
  go_wp2_with fail
  generalize w2.alloc (.cells #[.slice (some ⟨g, off, none⟩) 4 4, .slice d2 4 4] 26) = w3 at *
  obtain ⟨hx0, hx1⟩ := hbx
  have hI3 : ((j : Nat) : Int) < 4 := by omega
  have hn3 := World.block_lt_of_cell? _ _ hx0
  have hg3 := World.block_lt_of_cell? _ _ hc0
  have HC := Lib.hid (fun W hW => newD_held (n := w2.heap.size) HW3.out HD3.out hj hn3 hg3 W hW)
  have hS : w3.drew.cell? ⟨w2.heap.size, 0, none⟩ = some (.slice (some ⟨g, off, none⟩) 4 4) ∧ w3.drew.cell? ⟨w2.heap.size, 1, none⟩ = some (.slice d2 4 4) ∧ w3.drew.cell? ⟨g, off + j, none⟩ = some (.string ⟨(dNm j).toArray⟩) ∧ Below w3.heap.size w3 w3.drew := ⟨hx0, hx1, hc0, (Below.refl _ _).drew⟩
  clear hx0 hx1 hc0 hn3 hg3
  refine wp_region_N (fun W => W.cell? ⟨w2.heap.size, 0, none⟩ = some (.slice (some ⟨g, off, none⟩) 4 4) ∧ W.cell? ⟨w2.heap.size, 1, none⟩ = some (.slice d2 4 4) ∧ W.cell? ⟨g, off + j, none⟩ = some (.string ⟨(dNm j).toArray⟩) ∧ Below w3.heap.size w3 W) (fun _ => true) (by kernel_rfl) ?_
  refine wpAnyN_take_at 0 28 (v := ?_) rfl rfl (by kernel_rfl) (by kernel_rfl) (by kernel_rfl) (by kernel_rfl) (by kernel_rfl) (fun _ _ _ h => h) (by rfl) ?_ hS ?_
  rotate_left
  · intro w hSw; (try dsimp only at hSw); obtain ⟨s0, s1, s2, s3⟩ := hSw; go_simp; (try with_reducible rfl)
  simp only [Act.put, List.setIfInBounds_toArray, List.set_cons_zero, List.set_cons_succ]
  refine wpAnyN_take_at 1 29 (v := ?_) rfl rfl (by kernel_rfl) (by kernel_rfl) (by kernel_rfl) (by kernel_rfl) (by kernel_rfl) (fun _ _ _ h => h) (by rfl) ?_ hS ?_
  rotate_left
  · intro w hSw; (try dsimp only at hSw); obtain ⟨s0, s1, s2, s3⟩ := hSw; go_simp; (try with_reducible rfl)
  simp only [Act.put, List.setIfInBounds_toArray, List.set_cons_zero, List.set_cons_succ]
  refine wpAnyN_take_at 2 30 (v := ?_) rfl rfl (by kernel_rfl) (by kernel_rfl) (by kernel_rfl) (by kernel_rfl) (by kernel_rfl) (fun _ _ _ h => h) (by rfl) ?_ hS ?_
  rotate_left
  · intro w hSw; (try dsimp only at hSw); obtain ⟨s0, s1, s2, s3⟩ := hSw; go_simp; (try with_reducible rfl)
  simp only [Act.put, List.setIfInBounds_toArray, List.set_cons_zero, List.set_cons_succ]
  refine wpAnyN_take_at 3 31 (v := ?_) rfl rfl (by kernel_rfl) (by kernel_rfl) (by kernel_rfl) (by kernel_rfl) (by kernel_rfl) (fun _ _ _ h => h) (by rfl) ?_ hS ?_
  rotate_left
  · intro w hSw; (try dsimp only at hSw); obtain ⟨s0, s1, s2, s3⟩ := hSw; go_simp; (try with_reducible rfl)
  simp only [Act.put, List.setIfInBounds_toArray, List.set_cons_zero, List.set_cons_succ]
  refine wpAnyN_take_at 4 32 (v := ?_) rfl rfl (by kernel_rfl) (by kernel_rfl) (by kernel_rfl) (by kernel_rfl) (by kernel_rfl) (fun _ _ _ h => h) (by rfl) ?_ hS ?_
  rotate_left
  · intro w hSw; (try dsimp only at hSw); obtain ⟨s0, s1, s2, s3⟩ := hSw; go_simp; (try with_reducible rfl)
  simp only [Act.put, List.setIfInBounds_toArray, List.set_cons_zero, List.set_cons_succ]
  refine wpAnyN_take_at 5 33 (v := .int .i64 (wrap64 (a0.tmod 4 + 4))) rfl rfl (by kernel_rfl) (by kernel_rfl) (by kernel_rfl) (by kernel_rfl) (by kernel_rfl) (fun _ _ _ h => h) (by rfl) ?_ hS ?_
  · intro w hSw; (try dsimp only at hSw); obtain ⟨s0, s1, s2, s3⟩ := hSw; go_simp; (try rw [wrapE]); (try with_reducible rfl)
  simp only [Act.put, List.setIfInBounds_toArray, List.set_cons_zero, List.set_cons_succ]
  refine wpAnyN_take_at 6 34 (v := .int .i64 ((j : Nat) : Int)) rfl rfl (by kernel_rfl) (by kernel_rfl) (by kernel_rfl) (by kernel_rfl) (by kernel_rfl) (fun _ _ _ h => h) (by rfl) ?_ hS ?_
  · intro w hSw; (try dsimp only at hSw); obtain ⟨s0, s1, s2, s3⟩ := hSw; go_simp; (try rw [hm]); (try with_reducible rfl)
  simp only [Act.put, List.setIfInBounds_toArray, List.set_cons_zero, List.set_cons_succ]
  refine wpAnyN_take_at 7 35 (v := ?_) rfl rfl (by kernel_rfl) (by kernel_rfl) (by kernel_rfl) (by kernel_rfl) (by kernel_rfl) (fun _ _ _ h => h) (by rfl) ?_ hS ?_
  rotate_left
  · intro w hSw; (try dsimp only at hSw); obtain ⟨s0, s1, s2, s3⟩ := hSw; go_simp; (try with_reducible rfl)
  simp only [Act.put, List.setIfInBounds_toArray, List.set_cons_zero, List.set_cons_succ]
  refine wpAnyN_take_at 8 36 (v := ?_) rfl rfl (by kernel_rfl) (by kernel_rfl) (by kernel_rfl) (by kernel_rfl) (by kernel_rfl) (fun _ _ _ h => h) (by rfl) ?_ hS ?_
  rotate_left
  · intro w hSw; (try dsimp only at hSw); obtain ⟨s0, s1, s2, s3⟩ := hSw; go_simp; (try with_reducible rfl)
  simp only [Act.put, List.setIfInBounds_toArray, List.set_cons_zero, List.set_cons_succ]
  refine wpAnyN_one (i := 9) rfl (by kernel_rfl) (fun K hK => ?_)
  go_simp
  refine (HC.out _ hS).mono ?_
  rintro e w5 ⟨b, rfl, hSd, hS5⟩
  refine hK _ _ (fun _ => hS5) ?_
  clear hK hS HC
  have hS := hS5
  refine wpAnyN_take_at 10 27 (v := ?_) rfl rfl (by kernel_rfl) (by kernel_rfl) (by kernel_rfl) (by kernel_rfl) (by kernel_rfl) (fun _ _ _ h => h) (by rfl) ?_ hS ?_
  rotate_left
  · intro w hSw; (try dsimp only at hSw); obtain ⟨s0, s1, s2, s3⟩ := hSw; go_simp; (try with_reducible rfl)
  simp only [Act.put, List.setIfInBounds_toArray, List.set_cons_zero, List.set_cons_succ]
  refine wpAnyN_take_at 11 38 (v := ?_) rfl rfl (by kernel_rfl) (by kernel_rfl) (by kernel_rfl) (by kernel_rfl) (by kernel_rfl) (fun _ _ _ h => h) (by rfl) ?_ hS ?_
  rotate_left
  · intro w hSw; (try dsimp only at hSw); obtain ⟨s0, s1, s2, s3⟩ := hSw; go_simp; (try with_reducible rfl)
  simp only [Act.put, List.setIfInBounds_toArray, List.set_cons_zero, List.set_cons_succ]
  refine wpAnyN_take_at 12 39 (v := ?_) rfl rfl (by kernel_rfl) (by kernel_rfl) (by kernel_rfl) (by kernel_rfl) (by kernel_rfl) (fun _ _ _ h => h) (by rfl) ?_ hS ?_
  rotate_left
  · intro w hSw; (try dsimp only at hSw); obtain ⟨s0, s1, s2, s3⟩ := hSw; go_simp; (try with_reducible rfl)
  simp only [Act.put, List.setIfInBounds_toArray, List.set_cons_zero, List.set_cons_succ]
  refine wpAnyN_take_at 13 8 (v := ?_) rfl rfl (by kernel_rfl) (by kernel_rfl) (by kernel_rfl) (by kernel_rfl) (by kernel_rfl) (fun _ _ _ h => h) (by rfl) ?_ hS ?_
  rotate_left
  · intro w hSw; (try dsimp only at hSw); obtain ⟨s0, s1, s2, s3⟩ := hSw; go_simp; (try with_reducible rfl)
  simp only [Act.put, List.setIfInBounds_toArray, List.set_cons_zero, List.set_cons_succ]
  refine wpAnyN_take_at 14 9 (v := ?_) rfl rfl (by kernel_rfl) (by kernel_rfl) (by kernel_rfl) (by kernel_rfl) (by kernel_rfl) (fun _ _ _ h => h) (by rfl) ?_ hS ?_
  rotate_left
  · intro w hSw; (try dsimp only at hSw); obtain ⟨s0, s1, s2, s3⟩ := hSw; go_simp; (try with_reducible rfl)
  simp only [Act.put, List.setIfInBounds_toArray, List.set_cons_zero, List.set_cons_succ]
  refine wpAnyN_rest 15 [] rfl (by kernel_rfl) (by kernel_rfl) ?_
  have HB5 := Lib.hid (HB3.out.then hS5.2.2.2)
  have HD5 := Lib.hid (HD3.out.below hS5.2.2.2)
  have HW5 := Lib.hid (HW3.out.below hS5.2.2.2)
  have HSb5 := Lib.hid hS5.2.2.2
  obtain ⟨hx0, hx1, _, _⟩ := hS5
  have HSb := Lib.hid hSd
  clear hSd hS hm
  clear hx0 hx1
  have cl := lineD_any HSb.out a1 (by omega) A2 c2 us (HR2.out.below HB5.out)
  have cl2 := fun (w1 : World) (h : SeerD w1 b j) (hb : Below w.heap.size w w1) (x : ByteArray) (hx : x.size ≤ 100000) => lineD_any h x hx A2 c2 us (HR2.out.below hb)
  generalize (fun x => us.all (svD j) && svD j x) = p at *
  have HTwo := Lib.hid (lineL_two p p a1.data.toList)
  rw [andS_self] at HTwo
  have HOk := Lib.hid (ok_line p a1.data.toList)
  have hll := lineL_len p a1.data.toList
  generalize lineL p a1.data.toList = X at *
  obtain ⟨xb, hxb⟩ : ∃ xb : ByteArray, xb = ⟨X.toArray⟩ := ⟨_, rfl⟩
  have hxd : xb.data.toList = X := by rw [hxb]
  have hxs : xb.size ≤ 200 := by rw [hxb, str_size]; omega
  have cx := fun (w1 : World) (h : SeerD w1 b j) (hb : Below w.heap.size w w1) => cl2 w1 h hb xb (by omega)
  rw [hxd] at cx
  rw [HTwo.out] at cx
  rw [← hxb] at cl cx
  have HXd := Lib.hid hxd
  have HCx := Lib.hid cx
  clear hxd hxb hll cl2 cx
  go_wp2_with fail
  refine cl.mono ?_
  rintro e w6 ⟨rfl, b6⟩
  have HB6 := Lib.hid (HB5.out.then b6)
  have HSb6 := Lib.hid (HSb.out.below b6)
  clear b6 cl
  go_wp2_with fail
  go_loopw [11, 12] (fun v i wr => PlnRel a1 w6 v i wr) (fun _ i _ => a1.size - (intOf i).toNat)
  case atStart => exact ⟨0, true, rfl, Nat.zero_le _, rfl, ⟨fun _ m _ hm => absurd hm (Nat.not_lt_zero _), fun _ => rfl⟩, rfl⟩
  case round =>
    obtain ⟨k, u, rfl, hk, rfl, hu, hwe⟩ := hrel
    have hwe := hwe.symm
    subst hwe
    have HU := Lib.hid hu
    clear hu
    have hI : (0 : Int) ≤ (k : Int) + 1 := by omega
    by_cases hq : k + 1 < a1.size
    · have hk0 : k < a1.size := by omega
      have t8 : ∀ (b c : UInt8) (n : Nat), n = c.toNat → (((b.toNat : Nat) : Int) == (n : Int)) = decide (b = c) := by
        intro b c n hn
        rw [Bool.eq_iff_iff, beq_iff_eq, decide_eq_true_eq, hn]
        constructor
        · intro h; exact UInt8.toNat_inj.1 (by omega)
        · rintro rfl; rfl
      have e1 : (((a1[k]'hk0).toNat : Int) == 123) = decide (a1[k]'hk0 = 123) := t8 (a1[k]'hk0) 123 123 rfl
      have e2 : (((a1[k + 1]'hq).toNat : Int) == 124) = decide (a1[k + 1]'hq = 124) := t8 (a1[k + 1]'hq) 124 124 rfl
      have e3 : (((a1[k + 1]'hq).toNat : Int) == 61) = decide (a1[k + 1]'hq = 61) := t8 (a1[k + 1]'hq) 61 61 rfl
      have step : ∀ b : Bool, (b = true ↔ ¬ (a1[k]'hk0 = 123 ∧ (a1[k + 1]'hq = 124 ∨ a1[k + 1]'hq = 61))) → ((u && b) = true ↔ ∀ m (h : m + 1 < a1.size), m < k + 1 → ¬ (a1[m] = 123 ∧ (a1[m + 1] = 124 ∨ a1[m + 1] = 61))) := by
        intro b hb
        rw [Bool.and_eq_true, HU.out, hb]
        constructor
        · rintro ⟨h1, h2⟩ m hm hmk
          by_cases e : m = k
          · subst e; exact h2
          · exact h1 m hm (by omega)
        · intro h
          exact ⟨fun m hm hmk => h m hm (by omega), h k hq (by omega)⟩
      have HStep := Lib.hid step
      clear step t8
      have hb : (decide (a1[k]'hk0 = 123) = true ∧ decide (a1[k + 1]'hq = 124) = true) ∨ (decide (a1[k]'hk0 = 123) = true ∧ decide (a1[k + 1]'hq = 124) = false ∧ decide (a1[k + 1]'hq = 61) = true) ∨
          (decide (a1[k]'hk0 = 123) = true ∧ decide (a1[k + 1]'hq = 124) = false ∧ decide (a1[k + 1]'hq = 61) = false) ∨ decide (a1[k]'hk0 = 123) = false := by
        cases decide (a1[k]'hk0 = 123) <;> cases decide (a1[k + 1]'hq = 124) <;> cases decide (a1[k + 1]'hq = 61) <;> simp
      rcases hb with ⟨d1, d2⟩ | ⟨d1, d2, d3⟩ | ⟨d1, d2, d3⟩ | d1
      · rw [d1] at e1
        rw [d2] at e2
        have HF := Lib.hid (HStep.out false (by simp at d1 d2; simp [d1, d2]))
        clear d1 d2 e3
        go_wp2
        go_roundw
        case rel => exact ⟨k + 1, false, by go_num, by omega, rfl, by rw [Bool.and_false] at HF; exact HF.out, rfl⟩
        case measure => simp [intOf]; omega
      · rw [d1] at e1
        rw [d2] at e2
        rw [d3] at e3
        have HF := Lib.hid (HStep.out false (by simp at d1 d2 d3; simp [d1, d3]))
        clear d1 d2 d3
        go_wp2
        go_roundw
        case rel => exact ⟨k + 1, false, by go_num, by omega, rfl, by rw [Bool.and_false] at HF; exact HF.out, rfl⟩
        case measure => simp [intOf]; omega
      · rw [d1] at e1
        rw [d2] at e2
        rw [d3] at e3
        have HF := Lib.hid (HStep.out true (by simp at d1 d2 d3; simp [d2, d3]))
        clear d1 d2 d3
        go_wp2
        go_roundw
        case rel => exact ⟨k + 1, u, by go_num, by omega, rfl, by rw [Bool.and_true] at HF; exact HF.out, rfl⟩
        case measure => simp [intOf]; omega
      · rw [d1] at e1
        have HF := Lib.hid (HStep.out true (by simp at d1; simp [d1]))
        clear d1 e2 e3
        go_wp2
        go_roundw
        case rel => exact ⟨k + 1, u, by go_num, by omega, rfl, by rw [Bool.and_true] at HF; exact HF.out, rfl⟩
        case measure => simp [intOf]; omega
    · have cx := HCx.out _ HSb6.out HB6.out
      cases u with
      | false =>
        go_wp2_with fail
        refine cx.mono ?_
        rintro e w7 ⟨rfl, b7⟩
        go_wp2
        go_ret
        exact ⟨ret_bool (by simp), HB6.out.then b7⟩
      | true =>
        have hX : X = a1.data.toList := HOk.out (by
          rw [okL_iff]
          intro m hm
          have hm2 : m + 1 < a1.size := by rw [← hD]; exact hm
          exact HU.out.1 rfl m hm2 (by omega))
        have hxa : xb = a1 := by
          have := HXd.out
          rw [hX] at this
          apply ByteArray.ext
          apply Array.ext'
          exact this
        subst hxa
        go_wp2_with fail
        refine cx.mono ?_
        rintro e w7 ⟨rfl, b7⟩
        go_wp2
        go_ret
        exact ⟨ret_bool (by simp), HB6.out.then b7⟩
theorem veilLines_walk (w : World) (h7 : W7 w) (a0 : Int) (w0 : (Lit.int .i64 a0).wf = true) (a1 : ByteArray) (w1 : a1.size ≤ maxLen) (A2 : Option Addr) (c2 : Nat) (z2 : List ByteArray) (r2 : RowOf w A2 c2 (z2.map Value.string)) (w2 : ∀ s ∈ z2, s.size ≤ maxLen) :
    Calls Tryz.prog 6 #[.int .i64 a0, .string a1, .slice A2 z2.length c2] w fun e w' => e = .returned (.bool true) ∧ Below w.heap.size w w' := by
  rw [strs_of] at r2
  have h := veilLines_core w h7 a0 a1 A2 c2 _ r2 w1
  simp only [List.length_map] at h
  exact h

end Go.Proofs.YtneiheifjgffaaaGreatDoor
