/-
  The statements' helpers over lists of parts: SamePart, SameParts.
-/
import Derived.Test.YtodnioihadpncaaDoorRgtA
import Derived.Test.YtodnioihadpncaaDoorTexts
namespace Go.Proofs.YtodnioihadpncaaDoor
open Go.RowKit
set_option linter.unusedSimpArgs false
set_option linter.unusedVariables false
set_option maxRecDepth 100000

set_option maxHeartbeats 4000000 in
theorem samePart_any (p q : Prt) (A B : Option Addr) (ca cb : Nat) (w : World) (ha : RowOf w A ca (strs p.ls)) (hb : RowOf w B cb (strs q.ls)) :
    Calls Tryd.prog 26 #[.agg #[.int .i64 p.depth, .bool p.dv, .string ⟨p.lab.toArray⟩, .bool p.opn, .slice A p.ls.length ca], .agg #[.int .i64 q.depth, .bool q.dv, .string ⟨q.lab.toArray⟩, .bool q.opn, .slice B q.ls.length cb]] w
      fun e w' => e = .returned (.bool (decide (p = q))) ∧ Below w.heap.size w w' := by
  obtain ⟨d, dv, lab, opn, ls⟩ := p
  obtain ⟨d2, dv2, lab2, opn2, ls2⟩ := q
  simp only at ha hb ⊢
  have b0 : Below w.heap.size w ((w.alloc (.cells #[.int .i64 d, .bool dv, .string ⟨lab.toArray⟩, .bool opn, .slice A ls.length ca] 32)).alloc (.cells #[.int .i64 d2, .bool dv2, .string ⟨lab2.toArray⟩, .bool opn2, .slice B ls2.length cb] 32)) :=
    ((Below.refl _ w).alloc (Nat.le_refl _) _).alloc (by rw [alloc_size]; omega) _
  have cs := same_any A B ca cb ls ls2 _ (ha.below b0) (hb.below b0)
  simp only [Prt.mk.injEq]
  have HB := Lib.hid b0
  have na : ls.length ≤ ca := by have := ha.1; rwa [strs_length] at this
  generalize hla : ls.length = n at *
  generalize hlb : ls2.length = n2 at *
  clear ha hb b0 na hla hlb
  generalize hE : decide (ls = ls2) = E at *
  have HE := Lib.hid hE
  clear hE
  by_cases h1 : d = d2
  · subst h1
    by_cases h2 : dv = dv2
    · subst h2
      by_cases h3 : lab = lab2
      · subst h3
        by_cases h4 : opn = opn2
        · subst h4
          go_enter Tryd.func26, Tryd.ntmps26
          go_wp2_with fail
          refine cs.mono ?_
          rintro e w1 ⟨rfl, n0, rfl⟩
          go_wp2
          go_ret
          exact ⟨ret_bool (by rw [← HE.out]; simp), below_drewN' HB.out _⟩
        · have f4 : (opn == opn2) = false := by rw [beq_eq_false_iff_ne]; exact h4
          have HF := Lib.hid h4
          clear h4 cs
          go_enter Tryd.func26, Tryd.ntmps26
          go_wp2
          go_ret
          exact ⟨ret_bool (by simp [HF.out]), HB.out⟩
      · have f3 : (@BEq.beq (List UInt8) (@List.instBEq UInt8 (@instBEqOfDecidableEq UInt8 instDecidableEqUInt8)) lab lab2) = false := by simpa using h3
        have HF := Lib.hid h3
        clear h3 cs
        go_enter Tryd.func26, Tryd.ntmps26
        go_wp2
        go_ret
        exact ⟨ret_bool (by simp [HF.out]), HB.out⟩
    · have f2 : (dv == dv2) = false := by rw [beq_eq_false_iff_ne]; exact h2
      have HF := Lib.hid h2
      clear h2 cs
      go_enter Tryd.func26, Tryd.ntmps26
      go_wp2
      go_ret
      exact ⟨ret_bool (by simp [HF.out]), HB.out⟩
  · have f1 : (d == d2) = false := by rw [beq_eq_false_iff_ne]; exact h1
    have HF := Lib.hid h1
    clear h1 cs
    go_enter Tryd.func26, Tryd.ntmps26
    go_wp2
    go_ret
    exact ⟨ret_bool (by simp [HF.out]), HB.out⟩

def SmpRel (pa pb : List Prt) (w : World) (i : Value) (wr : World) : Prop := ∃ k : Nat, i = .int .i64 k ∧ k ≤ pa.length ∧ pa.take k = pb.take k ∧ Below w.heap.size w wr

set_option maxHeartbeats 8000000 in
theorem sameParts_any (A B : Option Addr) (ca cb : Nat) (X Y : List (Prt × Value)) (w : World) (hX : PartsAt w A ca X) (hY : PartsAt w B cb Y) :
    Calls Tryd.prog 16 #[.slice A X.length ca, .slice B Y.length cb] w fun e w' => e = .returned (.bool (decide (X.map Prod.fst = Y.map Prod.fst))) ∧ Below w.heap.size w w' := by
  have ha1 := hX.le
  have ha2 := hX.cap
  have hb1 := hY.le
  have hb2 := hY.cap
  unfold maxLen at ha2 hb2
  have hlX : (X.map Prod.fst).length = X.length := by simp
  have hlY : (Y.map Prod.fst).length = Y.length := by simp
  generalize hpa : X.map Prod.fst = pa at *
  generalize hpb : Y.map Prod.fst = pb at *
  have HPA := Lib.hid hpa
  have HPB := Lib.hid hpb
  clear hpa hpb
  by_cases hn : X.length = Y.length
  · have fn : ((X.length : Int) != Y.length) = false := by rw [bne_eq_false_iff_eq]; omega
    have HN := Lib.hid hn
    have hYk : ∀ k, k < X.length → k < Y.length := fun k h => by omega
    have HYK := Lib.hid hYk
    clear hn hYk
    go_enter Tryd.func16, Tryd.ntmps16
    go_wp2_with fail
    go_loopw [5] (fun i wr => SmpRel pa pb w i wr) (fun i wr => X.length - (intOf i).toNat)
    case atStart => exact ⟨0, rfl, Nat.zero_le _, rfl, Below.refl _ _⟩
    case round =>
      obtain ⟨k, rfl, hk, hs, hbw⟩ := hrel
      have HS := Lib.hid hs
      clear hs
      by_cases hp : k < X.length
      · have hp2 := HYK.out k hp
        have hX2 := hX.below hbw
        have hY2 := hY.below hbw
        obtain ⟨b1, o1, rfl, hl1, x0, x1, x2, x3, x4⟩ := hX2.at hp
        obtain ⟨b2, o2, rfl, hl2, y0, y1, y2, y3, y4⟩ := hY2.at hp2
        obtain ⟨A8, c8, e8, hr8⟩ := hX2.ls X[k] (List.getElem_mem hp)
        obtain ⟨A9, c9, e9, hr9⟩ := hY2.ls Y[k] (List.getElem_mem hp2)
        have gx : pa[k]? = some X[k].1 := by rw [← HPA.out, List.getElem?_map, List.getElem?_eq_getElem hp]; rfl
        have gy : pb[k]? = some Y[k].1 := by rw [← HPB.out, List.getElem?_map, List.getElem?_eq_getElem hp2]; rfl
        have GX := Lib.hid gx
        have GY := Lib.hid gy
        rw [e8] at x4
        rw [e9] at y4
        have bd : Below wr.heap.size wr wr.drew := (Below.refl _ _).drew
        have cs := samePart_any X[k].1 Y[k].1 A8 A9 c8 c9 wr.drew (hr8.below bd) (hr9.below bd)
        clear hX2 hY2 gx gy hr8 hr9 e8 e9 bd
        generalize X[k].1 = p at *
        generalize Y[k].1 = q at *
        have HB := Lib.hid hbw
        clear hbw
        generalize p.ls.length = n8 at *
        generalize q.ls.length = n9 at *
        generalize hd1 : p.depth = d at *
        generalize hd2 : p.dv = dv at *
        generalize hd3 : p.lab = lab at *
        generalize hd4 : p.opn = opn at *
        generalize he1 : q.depth = d2 at *
        generalize he2 : q.dv = dv2 at *
        generalize he3 : q.lab = lab2 at *
        generalize he4 : q.opn = opn2 at *
        clear hd1 hd2 hd3 hd4 he1 he2 he3 he4
        by_cases he : p = q
        · rw [decide_eq_true he] at cs
          have HE := Lib.hid he
          clear he
          go_wp2_with fail
          have hS : wr.drew.cell? ⟨b1, o1 + k * 5, none⟩ = some (.int .i64 d) ∧ wr.drew.cell? ⟨b1, o1 + k * 5 + 1, none⟩ = some (.bool dv) ∧ wr.drew.cell? ⟨b1, o1 + k * 5 + 2, none⟩ = some (.string ⟨lab.toArray⟩) ∧ wr.drew.cell? ⟨b1, o1 + k * 5 + 3, none⟩ = some (.bool opn) ∧ wr.drew.cell? ⟨b1, o1 + k * 5 + 4, none⟩ = some (.slice A8 n8 c8) ∧ wr.drew.cell? ⟨b2, o2 + k * 5, none⟩ = some (.int .i64 d2) ∧ wr.drew.cell? ⟨b2, o2 + k * 5 + 1, none⟩ = some (.bool dv2) ∧ wr.drew.cell? ⟨b2, o2 + k * 5 + 2, none⟩ = some (.string ⟨lab2.toArray⟩) ∧ wr.drew.cell? ⟨b2, o2 + k * 5 + 3, none⟩ = some (.bool opn2) ∧ wr.drew.cell? ⟨b2, o2 + k * 5 + 4, none⟩ = some (.slice A9 n9 c9) := ⟨x0, x1, x2, x3, x4, y0, y1, y2, y3, y4⟩
          refine wp_region_N (fun W => W.cell? ⟨b1, o1 + k * 5, none⟩ = some (.int .i64 d) ∧ W.cell? ⟨b1, o1 + k * 5 + 1, none⟩ = some (.bool dv) ∧ W.cell? ⟨b1, o1 + k * 5 + 2, none⟩ = some (.string ⟨lab.toArray⟩) ∧ W.cell? ⟨b1, o1 + k * 5 + 3, none⟩ = some (.bool opn) ∧ W.cell? ⟨b1, o1 + k * 5 + 4, none⟩ = some (.slice A8 n8 c8) ∧ W.cell? ⟨b2, o2 + k * 5, none⟩ = some (.int .i64 d2) ∧ W.cell? ⟨b2, o2 + k * 5 + 1, none⟩ = some (.bool dv2) ∧ W.cell? ⟨b2, o2 + k * 5 + 2, none⟩ = some (.string ⟨lab2.toArray⟩) ∧ W.cell? ⟨b2, o2 + k * 5 + 3, none⟩ = some (.bool opn2) ∧ W.cell? ⟨b2, o2 + k * 5 + 4, none⟩ = some (.slice A9 n9 c9)) (fun i => decide (i < 8)) (by kernel_rfl) ?_
          refine wpAnyN_take_at 0 17 (v := ?_) rfl rfl (by kernel_rfl) (by kernel_rfl) (by kernel_rfl) (by kernel_rfl) (by kernel_rfl) (fun _ _ _ h => h) (by rfl) ?_ hS ?_
          rotate_left
          · intro w hSw; (try dsimp only at hSw); obtain ⟨s0, s1, s2, s3, s4, t0, t1, t2, t3, t4⟩ := hSw; go_simp; (try with_reducible rfl)
          simp only [Act.put, List.setIfInBounds_toArray, List.set_cons_zero, List.set_cons_succ]
          refine wpAnyN_take_at 1 18 (v := ?_) rfl rfl (by kernel_rfl) (by kernel_rfl) (by kernel_rfl) (by kernel_rfl) (by kernel_rfl) (fun _ _ _ h => h) (by rfl) ?_ hS ?_
          rotate_left
          · intro w hSw; (try dsimp only at hSw); obtain ⟨s0, s1, s2, s3, s4, t0, t1, t2, t3, t4⟩ := hSw; go_simp; (try with_reducible rfl)
          simp only [Act.put, List.setIfInBounds_toArray, List.set_cons_zero, List.set_cons_succ]
          refine wpAnyN_take_at 2 19 (v := ?_) rfl rfl (by kernel_rfl) (by kernel_rfl) (by kernel_rfl) (by kernel_rfl) (by kernel_rfl) (fun _ _ _ h => h) (by rfl) ?_ hS ?_
          rotate_left
          · intro w hSw; (try dsimp only at hSw); obtain ⟨s0, s1, s2, s3, s4, t0, t1, t2, t3, t4⟩ := hSw; go_simp; (try with_reducible rfl)
          simp only [Act.put, List.setIfInBounds_toArray, List.set_cons_zero, List.set_cons_succ]
          refine wpAnyN_take_at 3 20 (v := ?_) rfl rfl (by kernel_rfl) (by kernel_rfl) (by kernel_rfl) (by kernel_rfl) (by kernel_rfl) (fun _ _ _ h => h) (by rfl) ?_ hS ?_
          rotate_left
          · intro w hSw; (try dsimp only at hSw); obtain ⟨s0, s1, s2, s3, s4, t0, t1, t2, t3, t4⟩ := hSw; go_simp; (try with_reducible rfl)
          simp only [Act.put, List.setIfInBounds_toArray, List.set_cons_zero, List.set_cons_succ]
          refine wpAnyN_take_at 4 21 (v := ?_) rfl rfl (by kernel_rfl) (by kernel_rfl) (by kernel_rfl) (by kernel_rfl) (by kernel_rfl) (fun _ _ _ h => h) (by rfl) ?_ hS ?_
          rotate_left
          · intro w hSw; (try dsimp only at hSw); obtain ⟨s0, s1, s2, s3, s4, t0, t1, t2, t3, t4⟩ := hSw; go_simp; (try with_reducible rfl)
          simp only [Act.put, List.setIfInBounds_toArray, List.set_cons_zero, List.set_cons_succ]
          refine wpAnyN_take_at 5 22 (v := ?_) rfl rfl (by kernel_rfl) (by kernel_rfl) (by kernel_rfl) (by kernel_rfl) (by kernel_rfl) (fun _ _ _ h => h) (by rfl) ?_ hS ?_
          rotate_left
          · intro w hSw; (try dsimp only at hSw); obtain ⟨s0, s1, s2, s3, s4, t0, t1, t2, t3, t4⟩ := hSw; go_simp; (try with_reducible rfl)
          simp only [Act.put, List.setIfInBounds_toArray, List.set_cons_zero, List.set_cons_succ]
          refine wpAnyN_take_at 6 23 (v := ?_) rfl rfl (by kernel_rfl) (by kernel_rfl) (by kernel_rfl) (by kernel_rfl) (by kernel_rfl) (fun _ _ _ h => h) (by rfl) ?_ hS ?_
          rotate_left
          · intro w hSw; (try dsimp only at hSw); obtain ⟨s0, s1, s2, s3, s4, t0, t1, t2, t3, t4⟩ := hSw; go_simp; (try with_reducible rfl)
          simp only [Act.put, List.setIfInBounds_toArray, List.set_cons_zero, List.set_cons_succ]
          refine wpAnyN_take_at 7 24 (v := ?_) rfl rfl (by kernel_rfl) (by kernel_rfl) (by kernel_rfl) (by kernel_rfl) (by kernel_rfl) (fun _ _ _ h => h) (by rfl) ?_ hS ?_
          rotate_left
          · intro w hSw; (try dsimp only at hSw); obtain ⟨s0, s1, s2, s3, s4, t0, t1, t2, t3, t4⟩ := hSw; go_simp; (try with_reducible rfl)
          simp only [Act.put, List.setIfInBounds_toArray, List.set_cons_zero, List.set_cons_succ]
          refine wpAnyN_rest 8 [_, _] rfl (by kernel_rfl) (by kernel_rfl) ?_
          clear hS
          go_wp2_with fail
          refine cs.mono ?_
          rintro e w1 ⟨rfl, b1⟩
          go_wp2
          go_roundw
          case rel => exact ⟨k + 1, by go_num, by omega, by rw [List.take_add_one, List.take_add_one, HS.out, GX.out, GY.out, HE.out], (HB.out.drew).then b1⟩
          case measure => simp [intOf]; omega
        · rw [decide_eq_false he] at cs
          have HF := Lib.hid (show decide (pa = pb) = false from by
            rw [decide_eq_false_iff_not]
            intro e
            have h1 := GX.out
            rw [e, GY.out] at h1
            exact he (Option.some.inj h1).symm)
          clear he
          go_wp2_with fail
          have hS : wr.drew.cell? ⟨b1, o1 + k * 5, none⟩ = some (.int .i64 d) ∧ wr.drew.cell? ⟨b1, o1 + k * 5 + 1, none⟩ = some (.bool dv) ∧ wr.drew.cell? ⟨b1, o1 + k * 5 + 2, none⟩ = some (.string ⟨lab.toArray⟩) ∧ wr.drew.cell? ⟨b1, o1 + k * 5 + 3, none⟩ = some (.bool opn) ∧ wr.drew.cell? ⟨b1, o1 + k * 5 + 4, none⟩ = some (.slice A8 n8 c8) ∧ wr.drew.cell? ⟨b2, o2 + k * 5, none⟩ = some (.int .i64 d2) ∧ wr.drew.cell? ⟨b2, o2 + k * 5 + 1, none⟩ = some (.bool dv2) ∧ wr.drew.cell? ⟨b2, o2 + k * 5 + 2, none⟩ = some (.string ⟨lab2.toArray⟩) ∧ wr.drew.cell? ⟨b2, o2 + k * 5 + 3, none⟩ = some (.bool opn2) ∧ wr.drew.cell? ⟨b2, o2 + k * 5 + 4, none⟩ = some (.slice A9 n9 c9) := ⟨x0, x1, x2, x3, x4, y0, y1, y2, y3, y4⟩
          refine wp_region_N (fun W => W.cell? ⟨b1, o1 + k * 5, none⟩ = some (.int .i64 d) ∧ W.cell? ⟨b1, o1 + k * 5 + 1, none⟩ = some (.bool dv) ∧ W.cell? ⟨b1, o1 + k * 5 + 2, none⟩ = some (.string ⟨lab.toArray⟩) ∧ W.cell? ⟨b1, o1 + k * 5 + 3, none⟩ = some (.bool opn) ∧ W.cell? ⟨b1, o1 + k * 5 + 4, none⟩ = some (.slice A8 n8 c8) ∧ W.cell? ⟨b2, o2 + k * 5, none⟩ = some (.int .i64 d2) ∧ W.cell? ⟨b2, o2 + k * 5 + 1, none⟩ = some (.bool dv2) ∧ W.cell? ⟨b2, o2 + k * 5 + 2, none⟩ = some (.string ⟨lab2.toArray⟩) ∧ W.cell? ⟨b2, o2 + k * 5 + 3, none⟩ = some (.bool opn2) ∧ W.cell? ⟨b2, o2 + k * 5 + 4, none⟩ = some (.slice A9 n9 c9)) (fun i => decide (i < 8)) (by kernel_rfl) ?_
          refine wpAnyN_take_at 0 17 (v := ?_) rfl rfl (by kernel_rfl) (by kernel_rfl) (by kernel_rfl) (by kernel_rfl) (by kernel_rfl) (fun _ _ _ h => h) (by rfl) ?_ hS ?_
          rotate_left
          · intro w hSw; (try dsimp only at hSw); obtain ⟨s0, s1, s2, s3, s4, t0, t1, t2, t3, t4⟩ := hSw; go_simp; (try with_reducible rfl)
          simp only [Act.put, List.setIfInBounds_toArray, List.set_cons_zero, List.set_cons_succ]
          refine wpAnyN_take_at 1 18 (v := ?_) rfl rfl (by kernel_rfl) (by kernel_rfl) (by kernel_rfl) (by kernel_rfl) (by kernel_rfl) (fun _ _ _ h => h) (by rfl) ?_ hS ?_
          rotate_left
          · intro w hSw; (try dsimp only at hSw); obtain ⟨s0, s1, s2, s3, s4, t0, t1, t2, t3, t4⟩ := hSw; go_simp; (try with_reducible rfl)
          simp only [Act.put, List.setIfInBounds_toArray, List.set_cons_zero, List.set_cons_succ]
          refine wpAnyN_take_at 2 19 (v := ?_) rfl rfl (by kernel_rfl) (by kernel_rfl) (by kernel_rfl) (by kernel_rfl) (by kernel_rfl) (fun _ _ _ h => h) (by rfl) ?_ hS ?_
          rotate_left
          · intro w hSw; (try dsimp only at hSw); obtain ⟨s0, s1, s2, s3, s4, t0, t1, t2, t3, t4⟩ := hSw; go_simp; (try with_reducible rfl)
          simp only [Act.put, List.setIfInBounds_toArray, List.set_cons_zero, List.set_cons_succ]
          refine wpAnyN_take_at 3 20 (v := ?_) rfl rfl (by kernel_rfl) (by kernel_rfl) (by kernel_rfl) (by kernel_rfl) (by kernel_rfl) (fun _ _ _ h => h) (by rfl) ?_ hS ?_
          rotate_left
          · intro w hSw; (try dsimp only at hSw); obtain ⟨s0, s1, s2, s3, s4, t0, t1, t2, t3, t4⟩ := hSw; go_simp; (try with_reducible rfl)
          simp only [Act.put, List.setIfInBounds_toArray, List.set_cons_zero, List.set_cons_succ]
          refine wpAnyN_take_at 4 21 (v := ?_) rfl rfl (by kernel_rfl) (by kernel_rfl) (by kernel_rfl) (by kernel_rfl) (by kernel_rfl) (fun _ _ _ h => h) (by rfl) ?_ hS ?_
          rotate_left
          · intro w hSw; (try dsimp only at hSw); obtain ⟨s0, s1, s2, s3, s4, t0, t1, t2, t3, t4⟩ := hSw; go_simp; (try with_reducible rfl)
          simp only [Act.put, List.setIfInBounds_toArray, List.set_cons_zero, List.set_cons_succ]
          refine wpAnyN_take_at 5 22 (v := ?_) rfl rfl (by kernel_rfl) (by kernel_rfl) (by kernel_rfl) (by kernel_rfl) (by kernel_rfl) (fun _ _ _ h => h) (by rfl) ?_ hS ?_
          rotate_left
          · intro w hSw; (try dsimp only at hSw); obtain ⟨s0, s1, s2, s3, s4, t0, t1, t2, t3, t4⟩ := hSw; go_simp; (try with_reducible rfl)
          simp only [Act.put, List.setIfInBounds_toArray, List.set_cons_zero, List.set_cons_succ]
          refine wpAnyN_take_at 6 23 (v := ?_) rfl rfl (by kernel_rfl) (by kernel_rfl) (by kernel_rfl) (by kernel_rfl) (by kernel_rfl) (fun _ _ _ h => h) (by rfl) ?_ hS ?_
          rotate_left
          · intro w hSw; (try dsimp only at hSw); obtain ⟨s0, s1, s2, s3, s4, t0, t1, t2, t3, t4⟩ := hSw; go_simp; (try with_reducible rfl)
          simp only [Act.put, List.setIfInBounds_toArray, List.set_cons_zero, List.set_cons_succ]
          refine wpAnyN_take_at 7 24 (v := ?_) rfl rfl (by kernel_rfl) (by kernel_rfl) (by kernel_rfl) (by kernel_rfl) (by kernel_rfl) (fun _ _ _ h => h) (by rfl) ?_ hS ?_
          rotate_left
          · intro w hSw; (try dsimp only at hSw); obtain ⟨s0, s1, s2, s3, s4, t0, t1, t2, t3, t4⟩ := hSw; go_simp; (try with_reducible rfl)
          simp only [Act.put, List.setIfInBounds_toArray, List.set_cons_zero, List.set_cons_succ]
          refine wpAnyN_rest 8 [_, _] rfl (by kernel_rfl) (by kernel_rfl) ?_
          clear hS
          go_wp2_with fail
          refine cs.mono ?_
          rintro e w1 ⟨rfl, b1⟩
          go_wp2
          go_ret
          exact ⟨ret_bool HF.out.symm, (HB.out.drew).then b1⟩
      · obtain rfl : k = X.length := by omega
        have HF := Lib.hid (show decide (pa = pb) = true from by
          have h := HS.out
          rw [List.take_of_length_le (by omega), List.take_of_length_le (by rw [hlY, HN.out]; exact Nat.le_refl _)] at h
          simpa using h)
        go_wp2
        go_ret
        exact ⟨ret_bool HF.out.symm, hbw⟩
  · have fn : ((X.length : Int) != Y.length) = true := by rw [bne_iff_ne]; omega
    have HF := Lib.hid (show decide (pa = pb) = false from by
      rw [decide_eq_false_iff_not]
      intro e
      rw [e] at hlX
      exact hn (by omega))
    clear hn
    go_enter Tryd.func16, Tryd.ntmps16
    go_wp2
    go_ret
    exact ⟨ret_bool HF.out.symm, Below.refl _ _⟩

end Go.Proofs.YtodnioihadpncaaDoor
