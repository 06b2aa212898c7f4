/-
  LatticeLaws: the law's walk.
-/
import Derived.Test.YtmmdjbbbjlkmoaaDoorLatM
import Derived.Test.YtmmdjbbbjlkmoaaDoorLatQ
import Derived.Deep.Cut
import Derived.Deep.CutRange
namespace Go.Proofs.YtmmdjbbbjlkmoaaDoor
open Go.RowKit
set_option linter.unusedSimpArgs false
set_option linter.unusedVariables false

theorem LatIs.lat {w : World} {b n : Nat} {R : Rel} (h : LatIs w b n R) (hs : Sound n R) : Lat n R := ⟨h.refl, h.trans, hs⟩

set_option maxRecDepth 100000 in
set_option maxHeartbeats 8000000 in
theorem latticeLaws_walk (w : World) (hT : TabIs w) (a0 : Int) (w0 : (Lit.int .i64 a0).wf = true) (A1 : Option Addr) (c1 : Nat) (z1 : List (Int × Int)) (r1 : PairsAt w A1 c1 z1) (a2 : Int) (w2 : (Lit.int .i64 a2).wf = true) (a3 : Int) (w3 : (Lit.int .i64 a3).wf = true) (a4 : Int) (w4 : (Lit.int .i64 a4).wf = true) :
    Calls Tryd.prog 4 #[.int .i64 a0, .slice A1 z1.length c1, .int .i64 a2, .int .i64 a3, .int .i64 a4] w fun e w' => e = .returned (.bool true) ∧ Below w.heap.size w w' := by
  have ca := alive5_any w hT
  have hlen : z1.length ≤ 9223372036854775807 := by have := r1.1; have := r1.2.1; unfold maxLen at this; omega
  by_cases hbad : 12 < a0 ∨ (a0 ≤ 12 ∧ a0 < 1) ∨ (a0 ≤ 12 ∧ 1 ≤ a0 ∧ 60 < z1.length)
  · rcases hbad with h | ⟨h, h'⟩ | ⟨h, h', h2⟩
    all_goals
      clear w0 w2 w3 w4 hT r1
      go_enter Tryd.func4, Tryd.ntmps4
      go_wp2_with fail
      refine ca.mono ?_
      rintro e w3 ⟨rfl, b3⟩
      go_wp2
      go_ret
      exact ⟨rfl, b3⟩
  · obtain ⟨n, rfl⟩ : ∃ n : Nat, a0 = n := ⟨a0.toNat, by omega⟩
    have i1 : ((n : Int) ≤ 12) := by omega
    have i2 : ((1 : Int) ≤ n) := by omega
    have i3 : z1.length ≤ 60 := by omega
    clear hbad w0
    by_cases he : errS n z1 = 0
    · have c1 := fun w1 h hp => new_ok A1 c1 n z1 w1 h hp he
      have HS := Lib.hid (show Sound n (leqS n z1) from (errS_zero he).2.2.2)
      clear he
      go_enter Tryd.func4, Tryd.ntmps4
      go_wp2_with fail
      refine ca.mono ?_
      rintro e w3 ⟨rfl, b3⟩
      have hT3 := hT.below b3
      have r3 := r1.below b3
      clear ca
      go_wp2_with fail
      refine (c1 _ hT3 r3).mono ?_
      rintro e w5 ⟨b, rfl, b5, hbl, hl⟩
      have HB := Lib.hid (b3.then b5)
      have HT := Lib.hid (hT3.below b5)
      have HL := Lib.hid hl
      clear c1 hT3 r3 b3 b5 hl r1 hT
      go_wp2_with fail
      go_quiet (fail)
      obtain ⟨x, hx, ex⟩ := mod_place a2 (n := n) (by omega) (by omega)
      obtain ⟨y, hy, ey⟩ := mod_place a3 (n := n) (by omega) (by omega)
      obtain ⟨z, hz, ez⟩ := mod_place a4 (n := n) (by omega) (by omega)
      rw [ex, ey, ez]
      clear ex ey ez
      have CJ := Lib.hid (fun (p q : Nat) (hp : p < n) (hq : q < n) (i : Nat) => join_in p q hp hq (w5.drewN i) (HT.out.heap rfl) (HL.out.heap (w' := w5.drewN i) rfl))
      have CM := Lib.hid (fun (p q : Nat) (hp : p < n) (hq : q < n) (i : Nat) => meet_in p q hp hq (w5.drewN i) (HT.out.heap rfl) (HL.out.heap (w' := w5.drewN i) rfl))
      have CL := Lib.hid (fun (p q : Nat) (hp : p < n) (hq : q < n) (i : Nat) => leq_in p q hp hq (w5.drewN i) (HL.out.heap (w' := w5.drewN i) rfl))
      have CT := Lib.hid (fun (i : Nat) => top_any (w5.drewN i) (HT.out.heap rfl) (HL.out.heap (w' := w5.drewN i) rfl))
      have CB := Lib.hid (fun (i : Nat) => bot_any (w5.drewN i) (HT.out.heap rfl) (HL.out.heap (w' := w5.drewN i) rfl))
      have L := Lib.hid (HL.out.lat HS.out)
      generalize leqS n z1 = R at *
      obtain ⟨j, ej, ij⟩ := L.out.join hx hy
      obtain ⟨m, em, im⟩ := L.out.meet hx hy
      obtain ⟨k, ek, ik⟩ := L.out.join hy hz
      obtain ⟨u, eu, iu⟩ := L.out.join ij.1 hz
      obtain ⟨v, ev, iv⟩ := L.out.join hx ik.1
      obtain ⟨t, et, ht, hta⟩ := L.out.top (by omega)
      obtain ⟨o, eo, ho, hoa⟩ := L.out.bot (by omega)
      obtain rfl : u = v := L.out.assoc hx hy hz ij ik iu iv
      have cj1 := CJ.out x y hx hy
      have cj2 := CJ.out y x hy hx
      have cm1 := CM.out x y hx hy
      have cm2 := CM.out y x hy hx
      have cj3 := CJ.out j z ij.1 hz
      have cj4 := CJ.out y z hy hz
      have cj5 := CJ.out x k hx ik.1
      have cj6 := CJ.out x m hx im.1
      have cm6 := CM.out x j hx ij.1
      rw [ej] at cj1
      rw [joinR_comm, ej] at cj2
      rw [em] at cm1
      rw [meetR_comm, em] at cm2
      rw [eu] at cj3
      rw [ek] at cj4
      rw [ev] at cj5
      rw [L.out.absorb hx im] at cj6
      rw [L.out.absorb' hx ij] at cm6
      have ct := CT.out
      have cb := CB.out
      rw [et] at ct
      rw [eo] at cb
      have l1 := CL.out x j hx ij.1
      have l2 := CL.out y j hy ij.1
      have l3 := CL.out m x im.1 hx
      have l4 := CL.out m y im.1 hy
      have l5 := CL.out x z hx hz
      have l6 := CL.out y z hy hz
      have l7 := CL.out j z ij.1 hz
      have l8 := CL.out z x hz hx
      have l9 := CL.out z y hz hy
      have l10 := CL.out z m hz im.1
      have l11 := CL.out x y hx hy
      have l12 := CL.out x t hx ht
      have l13 := CL.out o x ho hx
      rw [ij.2.1] at l1
      rw [ij.2.2.1] at l2
      rw [show R m x = true from im.2.1] at l3
      rw [show R m y = true from im.2.2.1] at l4
      rw [hta x hx] at l12
      rw [show R o x = true from hoa x hx] at l13
      have P7 := Lib.hid (show R x z = true → R y z = true → R j z = true from ij.2.2.2 z hz)
      have P10 := Lib.hid (show R z x = true → R z y = true → R z m = true from im.2.2.2 z hz)
      have Hr := Lib.hid (show (R x y == ((j : Int) == (y : Int))) = true ∧ (R x y == ((m : Int) == (x : Int))) = true from by
        have e1 := L.out.leq_join hx hy ij
        have e2 := L.out.leq_meet hx hy im
        cases hr : R x y with
        | true => rw [e1.1 hr, e2.1 hr]; simp
        | false =>
          rw [hr] at e1 e2
          constructor
          · rw [beq_eq_false_iff_ne.2 (show (j : Int) ≠ y from fun h => by have := e1.2 (by omega); cases this)]; rfl
          · rw [beq_eq_false_iff_ne.2 (show (m : Int) ≠ x from fun h => by have := e2.2 (by omega); cases this)]; rfl)
      generalize R x z = p1 at *
      generalize R y z = p2 at *
      generalize R j z = p3 at *
      generalize R z x = q1 at *
      generalize R z y = q2 at *
      generalize R z m = q3 at *
      generalize R x y = r at *
      clear CJ CM CL CT CB ej em ek eu ev et eo ij im ik iu iv hta hoa L HS
      go_wp2_with fail
      refine (cj1 _).mono ?_
      rintro e w6 ⟨rfl, i6, rfl⟩
      go_wp2_with fail
      refine (cm1 _).mono ?_
      rintro e w6 ⟨rfl, i6, rfl⟩
      go_wp2_with fail
      refine (cj2 _).mono ?_
      rintro e w6 ⟨rfl, i6, rfl⟩
      go_wp2_with fail
      refine (cm2 _).mono ?_
      rintro e w6 ⟨rfl, i6, rfl⟩
      go_wp2_with fail
      refine (l1 _).mono ?_
      rintro e w6 ⟨rfl, rfl⟩
      go_wp2_with fail
      refine (l2 _).mono ?_
      rintro e w6 ⟨rfl, rfl⟩
      go_wp2_with fail
      refine (l3 _).mono ?_
      rintro e w6 ⟨rfl, rfl⟩
      go_wp2_with fail
      refine (l4 _).mono ?_
      rintro e w6 ⟨rfl, rfl⟩
      go_upto_region 10 with fail
      have hr1 := Hr.out.1
      have hr2 := Hr.out.2
      clear Hr cj2 cm2 cm1 l1 l2 l3 l4
      go_cut [147] from 112 to 147 (fun s wx => s = .bool false ∧ ∃ i, wx = w5.drewN i)
      case first =>
        clear cj1 cj3 cj4 cj5 cj6 cm6 ct cb l11 l12 l13 hr1 hr2
        have W1 : p1 = false ∨ (p1 = true ∧ p2 = false) ∨ (p1 = true ∧ p2 = true ∧ p3 = true) := by
          have := P7.out
          revert this; cases p1 <;> cases p2 <;> cases p3 <;> simp
        have W2 : q1 = false ∨ (q1 = true ∧ q2 = false) ∨ (q1 = true ∧ q2 = true ∧ q3 = true) := by
          have := P10.out
          revert this; cases q1 <;> cases q2 <;> cases q3 <;> simp
        clear P7 P10
        rcases W1 with rfl | ⟨rfl, rfl⟩ | ⟨rfl, rfl, rfl⟩
        · rcases W2 with rfl | ⟨rfl, rfl⟩ | ⟨rfl, rfl, rfl⟩
          · go_wp2_with fail
            refine (l5 _).mono ?_
            rintro e w6 ⟨rfl, rfl⟩
            go_wp2_with fail
            refine (l8 _).mono ?_
            rintro e w6 ⟨rfl, rfl⟩
            go_wp2_with fail
            go_meet
            exact ⟨rfl, _, rfl⟩
          · go_wp2_with fail
            refine (l5 _).mono ?_
            rintro e w6 ⟨rfl, rfl⟩
            go_wp2_with fail
            refine (l8 _).mono ?_
            rintro e w6 ⟨rfl, rfl⟩
            go_wp2_with fail
            refine (l9 _).mono ?_
            rintro e w6 ⟨rfl, rfl⟩
            go_wp2_with fail
            go_meet
            exact ⟨rfl, _, rfl⟩
          · go_wp2_with fail
            refine (l5 _).mono ?_
            rintro e w6 ⟨rfl, rfl⟩
            go_wp2_with fail
            refine (l8 _).mono ?_
            rintro e w6 ⟨rfl, rfl⟩
            go_wp2_with fail
            refine (l9 _).mono ?_
            rintro e w6 ⟨rfl, rfl⟩
            go_wp2_with fail
            refine (l10 _).mono ?_
            rintro e w6 ⟨rfl, rfl⟩
            go_wp2_with fail
            go_meet
            exact ⟨rfl, _, rfl⟩
        · rcases W2 with rfl | ⟨rfl, rfl⟩ | ⟨rfl, rfl, rfl⟩
          · go_wp2_with fail
            refine (l5 _).mono ?_
            rintro e w6 ⟨rfl, rfl⟩
            go_wp2_with fail
            refine (l6 _).mono ?_
            rintro e w6 ⟨rfl, rfl⟩
            go_wp2_with fail
            refine (l8 _).mono ?_
            rintro e w6 ⟨rfl, rfl⟩
            go_wp2_with fail
            go_meet
            exact ⟨rfl, _, rfl⟩
          · go_wp2_with fail
            refine (l5 _).mono ?_
            rintro e w6 ⟨rfl, rfl⟩
            go_wp2_with fail
            refine (l6 _).mono ?_
            rintro e w6 ⟨rfl, rfl⟩
            go_wp2_with fail
            refine (l8 _).mono ?_
            rintro e w6 ⟨rfl, rfl⟩
            go_wp2_with fail
            refine (l9 _).mono ?_
            rintro e w6 ⟨rfl, rfl⟩
            go_wp2_with fail
            go_meet
            exact ⟨rfl, _, rfl⟩
          · go_wp2_with fail
            refine (l5 _).mono ?_
            rintro e w6 ⟨rfl, rfl⟩
            go_wp2_with fail
            refine (l6 _).mono ?_
            rintro e w6 ⟨rfl, rfl⟩
            go_wp2_with fail
            refine (l8 _).mono ?_
            rintro e w6 ⟨rfl, rfl⟩
            go_wp2_with fail
            refine (l9 _).mono ?_
            rintro e w6 ⟨rfl, rfl⟩
            go_wp2_with fail
            refine (l10 _).mono ?_
            rintro e w6 ⟨rfl, rfl⟩
            go_wp2_with fail
            go_meet
            exact ⟨rfl, _, rfl⟩
        · rcases W2 with rfl | ⟨rfl, rfl⟩ | ⟨rfl, rfl, rfl⟩
          · go_wp2_with fail
            refine (l5 _).mono ?_
            rintro e w6 ⟨rfl, rfl⟩
            go_wp2_with fail
            refine (l6 _).mono ?_
            rintro e w6 ⟨rfl, rfl⟩
            go_wp2_with fail
            refine (l7 _).mono ?_
            rintro e w6 ⟨rfl, rfl⟩
            go_wp2_with fail
            refine (l8 _).mono ?_
            rintro e w6 ⟨rfl, rfl⟩
            go_wp2_with fail
            go_meet
            exact ⟨rfl, _, rfl⟩
          · go_wp2_with fail
            refine (l5 _).mono ?_
            rintro e w6 ⟨rfl, rfl⟩
            go_wp2_with fail
            refine (l6 _).mono ?_
            rintro e w6 ⟨rfl, rfl⟩
            go_wp2_with fail
            refine (l7 _).mono ?_
            rintro e w6 ⟨rfl, rfl⟩
            go_wp2_with fail
            refine (l8 _).mono ?_
            rintro e w6 ⟨rfl, rfl⟩
            go_wp2_with fail
            refine (l9 _).mono ?_
            rintro e w6 ⟨rfl, rfl⟩
            go_wp2_with fail
            go_meet
            exact ⟨rfl, _, rfl⟩
          · go_wp2_with fail
            refine (l5 _).mono ?_
            rintro e w6 ⟨rfl, rfl⟩
            go_wp2_with fail
            refine (l6 _).mono ?_
            rintro e w6 ⟨rfl, rfl⟩
            go_wp2_with fail
            refine (l7 _).mono ?_
            rintro e w6 ⟨rfl, rfl⟩
            go_wp2_with fail
            refine (l8 _).mono ?_
            rintro e w6 ⟨rfl, rfl⟩
            go_wp2_with fail
            refine (l9 _).mono ?_
            rintro e w6 ⟨rfl, rfl⟩
            go_wp2_with fail
            refine (l10 _).mono ?_
            rintro e w6 ⟨rfl, rfl⟩
            go_wp2_with fail
            go_meet
            exact ⟨rfl, _, rfl⟩
      case rest =>
      obtain ⟨rfl, i9, rfl⟩ := hcut
      clear l5 l6 l7 l8 l9 l10 P7 P10
      go_wp2_with fail
      refine (l11 _).mono ?_
      rintro e w6 ⟨rfl, rfl⟩
      go_wp2_with fail
      refine (l11 _).mono ?_
      rintro e w6 ⟨rfl, rfl⟩
      go_wp2_with fail
      refine (cj1 _).mono ?_
      rintro e w6 ⟨rfl, i6, rfl⟩
      go_wp2_with fail
      refine (cj3 _).mono ?_
      rintro e w6 ⟨rfl, i6, rfl⟩
      go_wp2_with fail
      refine (cj4 _).mono ?_
      rintro e w6 ⟨rfl, i6, rfl⟩
      go_wp2_with fail
      refine (cj5 _).mono ?_
      rintro e w6 ⟨rfl, i6, rfl⟩
      go_wp2_with fail
      refine (cj6 _).mono ?_
      rintro e w6 ⟨rfl, i6, rfl⟩
      go_wp2_with fail
      refine (cm6 _).mono ?_
      rintro e w6 ⟨rfl, i6, rfl⟩
      go_wp2_with fail
      refine (ct _).mono ?_
      rintro e w6 ⟨rfl, i6, rfl⟩
      go_wp2_with fail
      refine (l12 _).mono ?_
      rintro e w6 ⟨rfl, rfl⟩
      go_wp2_with fail
      refine (cb _).mono ?_
      rintro e w6 ⟨rfl, i6, rfl⟩
      go_wp2_with fail
      refine (l13 _).mono ?_
      rintro e w6 ⟨rfl, rfl⟩
      go_wp2
      go_ret
      exact ⟨rfl, below_drewN' HB.out _⟩
    · have c1 := fun w1 h hp => new_err A1 c1 n _ z1 w1 h hp rfl he
      have ne : (errS n z1 != 0) = true := by simpa using he
      generalize errS n z1 = er at *
      clear he w2 w3 w4
      go_enter Tryd.func4, Tryd.ntmps4
      go_wp2_with fail
      refine ca.mono ?_
      rintro e w3 ⟨rfl, b3⟩
      have hT3 := hT.below b3
      have r3 := r1.below b3
      clear ca
      go_wp2_with fail
      refine (c1 _ hT3 r3).mono ?_
      rintro e w4 ⟨rfl, b4⟩
      go_wp2
      go_ret
      exact ⟨rfl, b3.then b4⟩

end Go.Proofs.YtmmdjbbbjlkmoaaDoor
