/-
  EmphKeeps.
-/
import Derived.Test.YtmgcfmcpagegmaaEmU
import Derived.Test.YtmgcfmcpagegmaaEmY
namespace Go.Proofs.Ytmgcfmcpagegmaa
open Go.RowKit Go.Maps Go.ChangeShapes
set_option linter.unusedSimpArgs false
set_option linter.unusedVariables false
set_option maxRecDepth 100000

theorem sumN_le : ∀ X : List (Itm × Value), (∀ x ∈ X, x.1.ff ≤ 20) → sumN X ≤ 20 * X.length
  | [], _ => by simp [sumN]
  | x :: X, h => by
    have h1 := sumN_le X fun y hy => h y (List.mem_cons_of_mem _ hy)
    have h2 := h x (List.mem_cons_self ..)
    rw [sumN, List.length_cons]
    split <;> omega
theorem wrapD_rows : ∀ S : List Itm, (∀ x ∈ S, x.sg ≠ 0) → WrapD (allI S)
  | [], _ => by intro x hx; cases hx
  | x :: S, h => by
    rw [allI_cons, wrapD_append]
    exact ⟨wrapD_row (h x (List.mem_cons_self ..)), wrapD_rows S fun y hy => h y (List.mem_cons_of_mem _ hy)⟩
theorem potI_le : ∀ S : List Itm, (∀ x ∈ S, x.sg ≠ 0 ∧ x.n ≤ 20) → potI S ≤ 21 * S.length
  | [], _ => by simp [potI]
  | x :: S, h => by
    have h1 := potI_le S fun y hy => h y (List.mem_cons_of_mem _ hy)
    have h2 := h x (List.mem_cons_self ..)
    rw [potI_cons, List.length_cons]
    have h3 : itN x ≤ 21 := by
      unfold itN
      rw [if_neg h2.1]
      have := h2.2
      omega
    omega
theorem sumW_take (l : List Iln) (k : Nat) : sumW (l.take k) ≤ sumW l := by
  have h : sumW l = sumW (l.take k) + sumW (l.drop k) := by rw [← sumW_append, List.take_append_drop]
  omega

set_option maxHeartbeats 4000000 in
theorem emphKeeps_walk (w : World) (A0 : Option Addr) (c0 : Nat) (z0 : List (Itm × Value)) (r0 : EltsAt w itC 5 A0 c0 z0) (w0 : ItsWf w z0) :
    Calls Try.prog 3 #[.slice A0 z0.length c0] w fun e w' => e = .returned (.bool true) ∧ Below w.heap.size w w' := by
  have hal := alive14_any w
  by_cases hin : z0.length ≤ 30
  · have t1 : decide (30 < (z0.length : Int)) = false := by simp; omega
    go_enter Try.func3, Try.ntmps3
    go_wp2_with fail
    refine hal.mono ?_
    rintro e w1 ⟨rfl, b1⟩
    have HB1 := Lib.hid b1
    clear b1 hal
    have HR1 := Lib.hid (EltsAt.below r0 HB1.out)
    have HWF := Lib.hid w0
    clear r0 w0
    go_wp2_with fail
    (try simp only [t1])
    go_loopw [3, 18] (fun nv i wr => ∃ k : Nat, i = .int .i64 k ∧ k ≤ z0.length ∧ nv = .int .i64 (signsI ((z0.take k).map Prod.fst) : Nat) ∧ (∀ x ∈ z0.take k, (x.1.sg = 42 ∨ x.1.sg = 95) ∧ 0 ≤ x.1.ff ∧ x.1.ff ≤ 20) ∧ signsI ((z0.take k).map Prod.fst) ≤ 20 * k ∧ wr = w1) (fun _ i _ => z0.length - (intOf i).toNat)
    case atStart => exact ⟨0, rfl, Nat.zero_le _, rfl, by simp, by simp [signsI], rfl⟩
    case round =>
      obtain ⟨k, rfl, hk, rfl, hall, hsk, hw⟩ := hrel
      obtain rfl : w1 = wr := hw.symm
      by_cases hp : k < z0.length
      · obtain ⟨b, off, e, hb, hc⟩ := HR1.out.at hp
        subst e
        have hwf := HWF.out _ (List.getElem_mem hp)
        have htk : z0.take (k + 1) = z0.take k ++ [z0[k]] := List.take_succ_eq_append_getElem hp
        have hsg : signsI ((z0.take (k + 1)).map Prod.fst) = signsI ((z0.take k).map Prod.fst) + z0[k].1.n.toNat := by
          rw [htk, List.map_append, signsI_append]
          simp [signsI]
        have hal2 : ((z0[k].1.sg = 42 ∨ z0[k].1.sg = 95) ∧ 0 ≤ z0[k].1.ff ∧ z0[k].1.ff ≤ 20) → ∀ x ∈ z0.take (k + 1), (x.1.sg = 42 ∨ x.1.sg = 95) ∧ 0 ≤ x.1.ff ∧ x.1.ff ≤ 20 := by
          intro h x hx
          rw [htk] at hx
          rcases List.mem_append.1 hx with hx | hx
          · exact hall x hx
          · rw [List.mem_singleton] at hx
            subst hx
            exact h
        have HAL := Lib.hid hal2
        have HP := Lib.hid hp
        clear hal2 hall htk
        generalize z0[k] = x at *
        obtain ⟨⟨sg, nn, ff, op, cl, nd⟩, lv⟩ := x
        obtain ⟨hw1, hnf, ⟨Av, cv, elv, _⟩, _⟩ := hwf
        dsimp only at *
        subst elv hnf
        have c0 : w1.cell? ⟨b, off + k * 5, none⟩ = some (.int .u8 sg.toNat) := hc 0 _ rfl
        have c1 : w1.cell? ⟨b, off + k * 5 + 1, none⟩ = some (.int .i64 nn) := hc 1 _ rfl
        have HSG := Lib.hid hsg
        clear hc hsg hw1
        generalize signsI ((z0.take k).map Prod.fst) = sk at *
        by_cases hs : sg = 42 ∨ sg = 95
        · have hb2 : (((sg.toNat : Int) != 42) = false) ∨ (((sg.toNat : Int) != 42) = true ∧ ((sg.toNat : Int) != 95) = false) := by
            rcases hs with rfl | rfl
            · exact Or.inl rfl
            · exact Or.inr ⟨rfl, rfl⟩
          by_cases h1 : nn < 0
          · rcases hb2 with hb2 | ⟨hb2, hb3⟩
            all_goals (go_wp2; go_ret; exact ⟨rfl, HB1.out⟩)
          · by_cases h2 : 20 < nn
            · rcases hb2 with hb2 | ⟨hb2, hb3⟩
              all_goals (go_wp2; go_ret; exact ⟨rfl, HB1.out⟩)
            · obtain ⟨j, rfl⟩ : ∃ j : Nat, nn = j := ⟨nn.toNat, by omega⟩
              have hkl : k ≤ 30 := by omega
              rcases hb2 with hb2 | ⟨hb2, hb3⟩
              all_goals
                go_wp2
                go_roundw
                case rel => exact ⟨k + 1, by go_num, HP.out, by rw [HSG.out]; go_num, HAL.out ⟨hs, by omega, by omega⟩, by rw [HSG.out]; omega, trivial⟩
                case measure => have := HP.out; simp [intOf]; omega
        · have hb2 : ((sg.toNat : Int) != 42) = true := by
            simp
            intro h
            exact hs (Or.inl (UInt8.toNat_inj.1 (by show sg.toNat = 42; omega)))
          have hb3 : ((sg.toNat : Int) != 95) = true := by
            simp
            intro h
            exact hs (Or.inr (UInt8.toNat_inj.1 (by show sg.toNat = 95; omega)))
          go_wp2
          go_ret
          exact ⟨rfl, HB1.out⟩
      · obtain rfl : k = z0.length := by omega
        rw [List.take_length] at hall hsk ⊢
        have hsz : ∀ x ∈ z0, x.1.sg ≠ 0 ∧ x.1.n = x.1.ff ∧ 0 ≤ x.1.n ∧ x.1.n ≤ 20 := fun x hx => by
          obtain ⟨q1, q2, q3⟩ := hall x hx
          have q4 : x.1.n = x.1.ff := (HWF.out x hx).2.1
          exact ⟨by rcases q1 with q | q <;> rw [q] <;> decide, q4, by omega, by omega⟩
        have hmem : ∀ x ∈ z0.map Prod.fst, x.sg ≠ 0 ∧ 0 ≤ x.n ∧ x.n ≤ 20 := fun x hx => by
          obtain ⟨y, hy, rfl⟩ := List.mem_map.1 hx
          have := hsz y hy
          exact ⟨this.1, this.2.2⟩
        have cg := group_any z0 A0 c0 w1 HR1.out (fun x hx => by
            obtain ⟨_, _, ⟨Av, cv, q1, q2⟩, _⟩ := HWF.out x hx
            exact ⟨Av, cv, q1, EltsAt.below q2 HB1.out⟩) (fun x hx => ⟨(hsz x hx).2.1, by have := hall x hx; omega⟩)
          (by have := sumN_le z0 (fun x hx => (hall x hx).2.2); omega) (by omega) (wrapD_rows _ fun x hx => (hmem x hx).1) (by have := potI_le (z0.map Prod.fst) fun x hx => ⟨(hmem x hx).1, (hmem x hx).2.2⟩; rw [List.length_map] at this; omega)
        obtain ⟨g1, g2, g3, g4⟩ := keeps_plain (z0.map Prod.fst) (fun x hx => ⟨(hmem x hx).1, (hmem x hx).2.1⟩) (by omega)
        have hT : signsI (z0.map Prod.fst) ≤ 600 := by omega
        generalize signsI (z0.map Prod.fst) = T at *
        generalize groupI (z0.map Prod.fst) = G at *
        clear hall hsk hsz hmem hk hp
        go_wp2_with fail
        refine cg.mono ?_
        rintro e w2 ⟨⟨v, rfl, ho⟩, b2⟩
        obtain ⟨A1, k1, rfl, hG⟩ := EltsAt.own ilC_length ho
        have hgl : G.length ≤ 9223372036854775807 := by have h1 := hG.le; have h2 := hG.cap; unfold maxLen at h2; omega
        have HG := Lib.hid hG
        have HB2 := Lib.hid (HB1.out.trans (b2.mono HB1.out.size))
        have HK := Lib.hid g1
        have HS := Lib.hid g2
        have HD4 := Lib.hid g4
        have HD := Lib.hid g3
        clear cg ho b2 hG g1 g2 g3 g4 HWF HR1
        go_wp2_with fail
        go_loopw [3, 5, 62] (fun nv dv i wr => ∃ (k : Nat) (D : Int), i = .int .i64 k ∧ k ≤ G.length ∧ nv = .int .i64 ((T : Int) - (sumW (G.take k) : Nat)) ∧ dv = .int .i64 D ∧ deepOk D (G.drop k) = true ∧ (0 ≤ D ∧ D ≤ 1000001) ∧ Below w2.heap.size w2 wr) (fun _ _ i _ => G.length - (intOf i).toNat)
        case atStart => exact ⟨0, 0, rfl, Nat.zero_le _, by simp [sumW], rfl, HD.out, by omega, Below.refl _ _⟩
        case round =>
          obtain ⟨k, D, rfl, hk, rfl, rfl, hdo, hD, hbw⟩ := hrel
          by_cases hp : k < G.length
          · obtain ⟨b, off, e, hb, c0', c1', c2', c3', c4'⟩ := InlsAt.cells5 (EltsAt.below HG.out hbw) hp
            subst e
            have hkd := HK.out _ (List.getElem_mem hp)
            have hdp := HD4.out _ (List.getElem_mem hp)
            have hts : sumW (G.take (k + 1)) = sumW (G.take k) + weight G[k] := by
              rw [List.take_succ_eq_append_getElem hp, sumW_append]
              simp [sumW]
            have hle := sumW_take G (k + 1)
            rw [HS.out] at hle
            rw [List.drop_eq_getElem_cons hp] at hdo
            have HP := Lib.hid hp
            have HTS := Lib.hid hts
            rw [hts] at hle
            generalize G[k] = x at *
            obtain ⟨kd, dp, tx, ur, ti⟩ := x
            dsimp only at *
            simp only [deepOk, Bool.and_eq_true, decide_eq_true_eq] at hdo
            obtain ⟨hd1, hd2⟩ := hdo
            obtain ⟨x0, x1, x2, x3, x4⟩ := box5 wr (.int .i64 kd) (.int .i64 dp) (.string ⟨tx.toArray⟩) (.string ⟨ur.toArray⟩) (.string ⟨ti.toArray⟩) 29
            have HW := Lib.hid (hbw.alloc hbw.size (.cells #[.int .i64 kd, .int .i64 dp, .string ⟨tx.toArray⟩, .string ⟨ur.toArray⟩, .string ⟨ti.toArray⟩] 29))
            have HD2 := Lib.hid hd2
            clear hts hbw hd2
            generalize sumW (G.take k) = sk at *
            have hd1' : ¬ D < dp := by omega
            rcases hkd with rfl | rfl | rfl
            · have hw1 : weight ⟨1, dp, tx, ur, ti⟩ = tx.length := rfl
              rw [hw1] at HTS hle
              have hsz : (⟨tx.toArray⟩ : ByteArray).size = tx.length := rfl
              rw [← hsz] at HTS hle
              clear hw1 hsz
              generalize (⟨tx.toArray⟩ : ByteArray) = tb at *
              go_wp2
              go_roundw
              case rel => exact ⟨k + 1, dp, by go_num, HP.out, by rw [HTS.out]; go_num, rfl, by simpa using HD2.out, by omega, HW.out⟩
              case measure => have := HP.out; simp [intOf]; omega
            · have hw1 : weight ⟨3, dp, tx, ur, ti⟩ = 2 := rfl
              rw [hw1] at HTS hle
              clear hw1
              go_wp2
              go_roundw
              case rel => exact ⟨k + 1, dp + 1, by go_num, HP.out, by rw [HTS.out]; go_num, by go_num, by simpa using HD2.out, by omega, HW.out⟩
              case measure => have := HP.out; simp [intOf]; omega
            · have hw1 : weight ⟨4, dp, tx, ur, ti⟩ = 4 := rfl
              rw [hw1] at HTS hle
              clear hw1
              go_wp2
              go_roundw
              case rel => exact ⟨k + 1, dp + 1, by go_num, HP.out, by rw [HTS.out]; go_num, by go_num, by simpa using HD2.out, by omega, HW.out⟩
              case measure => have := HP.out; simp [intOf]; omega
          · obtain rfl : k = G.length := by omega
            rw [List.take_length, HS.out]
            have HW := Lib.hid (HB2.out.trans (hbw.mono HB2.out.size))
            clear hbw hdo
            have hz : (T : Int) - (T : Int) = 0 := by omega
            rw [hz]
            go_wp2
            go_ret
            exact ⟨rfl, HW.out⟩
  · go_enter Try.func3, Try.ntmps3
    go_wp2_with fail
    all_goals (refine hal.mono ?_; rintro e w' ⟨rfl, b⟩; go_wp2; go_ret; exact ⟨rfl, b⟩)

end Go.Proofs.Ytmgcfmcpagegmaa
