/-
  LatticeTells: the law's walk.
-/
import Derived.Test.YtmmdjbbbjlkmoaaDoorOrdE
import Derived.Test.YtmmdjbbbjlkmoaaDoorLatM
import Derived.Deep.Cut
import Derived.Deep.CutRange
namespace Go.Proofs.YtmmdjbbbjlkmoaaDoor
open Go.RowKit
set_option linter.unusedSimpArgs false
set_option linter.unusedVariables false

theorem top_nil (w : World) : Calls Tryd.prog 16 #[.pointer none] w fun e w' => e = .returned (.int .i64 (-1)) ∧ w' = w := by
  have cl := len_nil w
  go_enter Tryd.func16, Tryd.ntmps16
  go_wp2_with fail
  refine cl.mono ?_
  rintro e w1 ⟨rfl, rfl⟩
  go_wp2
  go_ret
  exact ⟨rfl, rfl⟩
theorem bot_nil (w : World) : Calls Tryd.prog 17 #[.pointer none] w fun e w' => e = .returned (.int .i64 (-1)) ∧ w' = w := by
  have cl := len_nil w
  go_enter Tryd.func17, Tryd.ntmps17
  go_wp2_with fail
  refine cl.mono ?_
  rintro e w1 ⟨rfl, rfl⟩
  go_wp2
  go_ret
  exact ⟨rfl, rfl⟩
theorem leq_nil0 (w : World) : Calls Tryd.prog 13 #[.pointer none, .int .i64 0, .int .i64 0] w fun e w' => e = .returned (.bool false) ∧ w' = w :=
  leq_core _ 0 0 0 w (has_nil 0 0 w) (by decide)
theorem join_nil0 (w : World) : Calls Tryd.prog 14 #[.pointer none, .int .i64 0, .int .i64 0] w fun e w' => e = .returned (.int .i64 (-1)) ∧ w' = w :=
  join_core _ 0 0 0 w (has_nil 0 0 w) (by decide)
theorem meet_nil0 (w : World) : Calls Tryd.prog 15 #[.pointer none, .int .i64 0, .int .i64 0] w fun e w' => e = .returned (.int .i64 (-1)) ∧ w' = w :=
  meet_core _ 0 0 0 w (has_nil 0 0 w) (by decide)
set_option maxRecDepth 100000 in
theorem orders_low (A : Option Addr) (ca : Nat) (n : Int) (ps : List (Int × Int)) (w : World) (hn : n < 1) :
    Calls Tryd.prog 11 #[.int .i64 n, .slice A ps.length ca] w fun e w' => e = .returned (.tuple #[.pointer none, .int .i64 6]) ∧ w' = w := by
  go_enter Tryd.func11, Tryd.ntmps11
  go_wp2
  go_ret2
  exact ⟨rfl, rfl⟩
theorem orders_ok (A : Option Addr) (ca n : Nat) (ps : List (Int × Int)) (w : World) (hpr : PairsAt w A ca ps) (hl60 : ps.length ≤ 60) (he : errS n ps = 0) :
    Calls Tryd.prog 11 #[.int .i64 n, .slice A ps.length ca] w fun e w' => Below w.heap.size w w' ∧ ∃ p : OPlace, e = .returned (.tuple #[.pointer (some ⟨p.o, 0, none⟩), .int .i64 0]) ∧ OMem w' p n (leqS n ps) (joinR n (leqS n ps)) (meetR n (leqS n ps)) := by
  have hz := errS_zero he
  refine (orders_any A ca n ps w hpr (by omega) (by omega) hl60).mono ?_
  rintro e w1 ⟨hb, h⟩
  rcases h with ⟨_, h⟩ | ⟨h, _⟩
  · exact ⟨hb, h⟩
  · exact absurd he h
theorem orders_bad (A : Option Addr) (ca n : Nat) (ps : List (Int × Int)) (w : World) (hpr : PairsAt w A ca ps) (h1 : 1 ≤ n) (h64 : n ≤ 64) (hl60 : ps.length ≤ 60) {k : Int} (he : errS n ps = k) (hk : k ≠ 0) :
    Calls Tryd.prog 11 #[.int .i64 n, .slice A ps.length ca] w fun e w' => e = .returned (.tuple #[.pointer none, .int .i64 k]) ∧ Below w.heap.size w w' := by
  refine (orders_any A ca n ps w hpr h1 h64 hl60).mono ?_
  rintro e w1 ⟨hb, h⟩
  rcases h with ⟨h, _⟩ | ⟨_, rfl⟩
  · exact absurd (he.symm.trans h) hk
  · exact ⟨by rw [he], hb⟩

def TellRel (n : Nat) (w : World) (i : Value) (wr : World) : Prop := ∃ k m : Nat, i = .int .i64 k ∧ k ≤ n ∧ wr = w.drewN m

set_option maxRecDepth 100000 in
set_option maxHeartbeats 8000000 in
theorem latticeTells_walk (w : World) (hT : TabIs w) (a0 : Int) (w0 : (Lit.int .i64 a0).wf = true) (A1 : Option Addr) (c1 : Nat) (z1 : List (Int × Int)) (r1 : PairsAt w A1 c1 z1) (a2 : Int) (w2 : (Lit.int .i64 a2).wf = true) (a3 : Int) (w3 : (Lit.int .i64 a3).wf = true) :
    Calls Tryd.prog 3 #[.int .i64 a0, .slice A1 z1.length c1, .int .i64 a2, .int .i64 a3] w fun e w' => e = .returned (.bool true) ∧ Below w.heap.size w w' := by
  have ca := alive5_any w hT
  have hlen : z1.length ≤ 9223372036854775807 := by have := r1.1; have := r1.2.1; unfold maxLen at this; omega
  by_cases hbad : (12 < a0 ∧ a0 ≠ 64) ∨ (a0 ≤ 12 ∧ 60 < z1.length) ∨ (a0 = 64 ∧ 60 < z1.length)
  · rcases hbad with ⟨h, h'⟩ | ⟨h, h'⟩ | ⟨rfl, h'⟩
    all_goals
      clear w0 w2 w3 hT r1
      go_enter Tryd.func3, Tryd.ntmps3
      go_wp2_with fail
      refine ca.mono ?_
      rintro e w3 ⟨rfl, b3⟩
      go_wp2
      go_ret
      exact ⟨rfl, b3⟩
  · have h12 : a0 ≤ 12 ∨ a0 = 64 := by omega
    have i3 : z1.length ≤ 60 := by omega
    have i64 : a0 ≤ 64 := by omega
    have H12 := Lib.hid h12
    clear hbad w0 w2 w3 h12
    go_enter Tryd.func3, Tryd.ntmps3
    go_upto_region 1 with fail
    go_cut [31] from 17 to 31 (fun s wx => s = .bool false ∧ Below w.heap.size w wx)
    case first =>
      have h12 := H12.out
      rcases h12 with h | rfl
      all_goals
        go_wp2_with fail
        refine ca.mono ?_
        rintro e w3 ⟨rfl, b3⟩
        go_wp2_with fail
        go_meet
        exact ⟨by rw [decide_eq_false (by omega)], b3⟩
    case rest =>
    obtain ⟨rfl, b3⟩ := hcut
    have hT3 := hT.below b3
    have r3 := r1.below b3
    have HB3 := Lib.hid b3
    clear ca hT r1 b3
    by_cases hlo : a0 < 1
    · have d1 := new_err A1 c1 a0 6 z1 _ hT3 r3 (if_pos (Or.inl hlo)) (by decide)
      clear hT3
      go_wp2_with fail
      refine d1.mono ?_
      rintro e w4 ⟨rfl, b4⟩
      clear d1
      go_wp2_with fail
      refine (orders_low A1 c1 a0 z1 _ hlo).mono ?_
      rintro e w5 ⟨rfl, rfl⟩
      go_wp2_with fail
      refine (len_nil _).mono ?_
      rintro e w7 ⟨rfl, rfl⟩
      go_wp2_with fail
      refine (leq_nil0 _).mono ?_
      rintro e w7 ⟨rfl, rfl⟩
      go_wp2_with fail
      refine (join_nil0 _).mono ?_
      rintro e w7 ⟨rfl, rfl⟩
      go_wp2_with fail
      refine (meet_nil0 _).mono ?_
      rintro e w7 ⟨rfl, rfl⟩
      go_wp2_with fail
      refine (top_nil _).mono ?_
      rintro e w7 ⟨rfl, rfl⟩
      go_wp2_with fail
      refine (bot_nil _).mono ?_
      rintro e w7 ⟨rfl, rfl⟩
      go_wp2
      go_ret
      exact ⟨rfl, HB3.out.then b4⟩
    · obtain ⟨n, rfl⟩ : ∃ n : Nat, a0 = n := ⟨a0.toNat, by omega⟩
      have h1 : 1 ≤ n := by omega
      have h64 : n ≤ 64 := by omega
      clear H12
      by_cases he : errS n z1 = 0
      · have d1 := new_ok A1 c1 n z1 _ hT3 r3 he
        have d2 := fun w1 h => orders_ok A1 c1 n z1 w1 h i3 he
        generalize leqS n z1 = R at *
        clear he
        go_wp2_with fail
        refine d1.mono ?_
        rintro e w5 ⟨b, rfl, b5, hbl, hl⟩
        have r5 := r3.below b5
        have hT5 := hT3.below b5
        have HL5 := Lib.hid hl
        have HB5 := Lib.hid (HB3.out.then b5)
        clear d1 hl b5 hT3 r3
        go_wp2_with fail
        refine (d2 _ r5).mono ?_
        rintro e w6 ⟨b6, p, rfl, ho⟩
        have HL := Lib.hid (HL5.out.below b6)
        have HT := Lib.hid (hT5.below b6)
        have HB := Lib.hid (HB5.out.then b6)
        have HO := Lib.hid ho
        clear d2 r5 hT5 b6 ho
        go_wp2_with fail
        go_loopw [14] (fun i wr => TellRel n w6 i wr) (fun i _ => n - (intOf i).toNat)
        case atStart => exact ⟨0, 0, rfl, Nat.zero_le _, rfl⟩
        case round =>
          obtain ⟨k, m, rfl, hk, hw⟩ := hrel
          have HW := Lib.hid hw
          clear hw
          by_cases hkn : k < n
          · go_wp2_with fail
            go_loopw [15] (fun i wr => TellRel n w6 i wr) (fun i _ => n - (intOf i).toNat)
            case atStart => exact ⟨0, m, rfl, Nat.zero_le _, HW.out⟩
            clear HW
            case round =>
              obtain ⟨j, m, rfl, hj, hw⟩ := hrel
              by_cases hjn : j < n
              · have hh : wr.heap = w6.heap := by rw [hw]; rfl
                have HW := Lib.hid hw
                have ho := HO.out.heap hh
                have hl := HL.out.heap hh
                have hT := HT.out.heap hh
                have cl := fun q => leq_in k j hkn hjn (wr.drewN q) (hl.heap (w' := wr.drewN q) rfl)
                have cj := fun q => join_in k j hkn hjn (wr.drewN q) (hT.heap rfl) (hl.heap (w' := wr.drewN q) rfl)
                have cm := fun q => meet_in k j hkn hjn (wr.drewN q) (hT.heap rfl) (hl.heap (w' := wr.drewN q) rfl)
                have m1 := ho.c1
                have m2 := ho.rL k hkn
                have m3 := ho.eL k j hkn hjn
                have m4 := ho.c2
                have m5 := ho.rJ k hkn
                have m6 := ho.eJ k j hkn hjn
                have m7 := ho.c3
                have m8 := ho.rM k hkn
                have m9 := ho.eM k j hkn hjn
                have mc := ho.cap
                generalize R k j = q at *
                generalize joinR n R k j = zj at *
                generalize meetR n R k j = zm at *
                have hq : (q != q) = false := by simp
                have hzj : (zj != zj) = false := by simp
                have hzm : (zm != zm) = false := by simp
                clear hh hw ho hl hT
                go_wp2_with fail
                go_quiet (first | (go_at_call 13; exact Calls.quiet_of_same (cl _)) | (go_at_call 14; exact Calls.quiet_of (cj _)) | (go_at_call 15; exact Calls.quiet_of (cm _)))
                rename_i nq
                go_wp2
                go_roundw
                case rel => exact ⟨j + 1, m + nq, by go_num, by omega, by rw [HW.out, World.drewN_drewN]⟩
                case measure => simp [intOf]; omega
              · obtain rfl : j = n := by omega
                go_wp2
                go_roundw
                case rel => exact ⟨k + 1, m, by go_num, by omega, by first | exact hw | rfl⟩
                case measure => simp [intOf]; omega
          · obtain rfl : k = n := by omega
            have hw := HW.out
            subst hw
            have cn := fun q => len_any (w6.drewN q) (HL.out.heap (w' := w6.drewN q) rfl).mem
            have ct := fun q => top_any (w6.drewN q) (HT.out.heap rfl) (HL.out.heap (w' := w6.drewN q) rfl)
            have cb := fun q => bot_any (w6.drewN q) (HT.out.heap rfl) (HL.out.heap (w' := w6.drewN q) rfl)
            have ce : ∀ q, Calls Tryd.prog 18 #[.pointer (some ⟨p.o, 0, none⟩), .bool true] (w6.drewN q) fun e w' => e = .returned (.int .i64 (topR k R)) ∧ w' = w6.drewN q := fun q => edge_any true (w6.drewN q) (HO.out.heap rfl) h64
            have cf : ∀ q, Calls Tryd.prog 18 #[.pointer (some ⟨p.o, 0, none⟩), .bool false] (w6.drewN q) fun e w' => e = .returned (.int .i64 (botR k R)) ∧ w' = w6.drewN q := fun q => edge_any false (w6.drewN q) (HO.out.heap rfl) h64
            have cl := fun q => leq_any a2 a3 (w6.drewN q) (HL.out.heap (w' := w6.drewN q) rfl)
            have cj := fun q => join_any a2 a3 (w6.drewN q) (HT.out.heap rfl) (HL.out.heap (w' := w6.drewN q) rfl)
            have cm := fun q => meet_any a2 a3 (w6.drewN q) (HT.out.heap rfl) (HL.out.heap (w' := w6.drewN q) rfl)
            generalize topR k R = zt at *
            generalize botR k R = zb at *
            by_cases hin : 0 ≤ a2 ∧ 0 ≤ a3 ∧ a2 < k ∧ a3 < k
            · obtain ⟨o1, o2, o3, o4⟩ := hin
              clear cl cj cm
              go_wp2_with fail
              refine (cn _).mono ?_
              rintro e w7 ⟨rfl, rfl⟩
              go_wp2_with fail
              refine (ct _).mono ?_
              rintro e w7 ⟨rfl, i7, rfl⟩
              go_wp2_with fail
              refine (ce _).mono ?_
              rintro e w7 ⟨rfl, rfl⟩
              go_wp2_with fail
              refine (cb _).mono ?_
              rintro e w7 ⟨rfl, i8, rfl⟩
              go_wp2_with fail
              refine (cf _).mono ?_
              rintro e w7 ⟨rfl, rfl⟩
              go_wp2
              go_ret
              exact ⟨rfl, below_drewN' HB.out _⟩
            · have hns : hasS k a2 a3 = false := by simp only [hasS, decide_eq_false_iff_not]; omega
              rw [show leqI k R a2 a3 = false from by simp [leqI, hns]] at cl
              rw [show joinI k R a2 a3 = -1 from by simp [joinI, hns]] at cj
              rw [show meetI k R a2 a3 = -1 from by simp [meetI, hns]] at cm
              have hwy : a2 < 0 ∨ (0 ≤ a2 ∧ a3 < 0) ∨ (0 ≤ a2 ∧ 0 ≤ a3 ∧ (k : Int) ≤ a2) ∨ (0 ≤ a2 ∧ 0 ≤ a3 ∧ a2 < k ∧ (k : Int) ≤ a3) := by omega
              clear hin hns
              rcases hwy with h | ⟨h, h'⟩ | ⟨h, h', h2⟩ | ⟨h, h', h2, h3⟩
              all_goals
                go_wp2_with fail
                refine (cn _).mono ?_
                rintro e w7 ⟨rfl, rfl⟩
                go_wp2_with fail
                refine (ct _).mono ?_
                rintro e w7 ⟨rfl, i7, rfl⟩
                go_wp2_with fail
                refine (ce _).mono ?_
                rintro e w7 ⟨rfl, rfl⟩
                go_wp2_with fail
                refine (cb _).mono ?_
                rintro e w7 ⟨rfl, i8, rfl⟩
                go_wp2_with fail
                refine (cf _).mono ?_
                rintro e w7 ⟨rfl, rfl⟩
                go_wp2_with fail
                refine (cl _).mono ?_
                rintro e w7 ⟨rfl, rfl⟩
                go_wp2_with fail
                refine (cj _).mono ?_
                rintro e w7 ⟨rfl, i9, rfl⟩
                go_wp2_with fail
                refine (cm _).mono ?_
                rintro e w7 ⟨rfl, i10, rfl⟩
                go_wp2
                go_ret
                exact ⟨rfl, below_drewN' HB.out _⟩
      · have d1 := new_err A1 c1 n _ z1 _ hT3 r3 rfl he
        have d2 := fun w1 h => orders_bad A1 c1 n z1 w1 h h1 h64 i3 rfl he
        generalize errS n z1 = er at *
        clear hT3 he
        go_wp2_with fail
        refine d1.mono ?_
        rintro e w4 ⟨rfl, b4⟩
        have r4 := r3.below b4
        have HB4 := Lib.hid (HB3.out.then b4)
        clear d1 b4 r3
        go_wp2_with fail
        refine (d2 _ r4).mono ?_
        rintro e w5 ⟨rfl, b5⟩
        go_wp2_with fail
        refine (len_nil _).mono ?_
        rintro e w7 ⟨rfl, rfl⟩
        go_wp2_with fail
        refine (leq_nil0 _).mono ?_
        rintro e w7 ⟨rfl, rfl⟩
        go_wp2_with fail
        refine (join_nil0 _).mono ?_
        rintro e w7 ⟨rfl, rfl⟩
        go_wp2_with fail
        refine (meet_nil0 _).mono ?_
        rintro e w7 ⟨rfl, rfl⟩
        go_wp2_with fail
        refine (top_nil _).mono ?_
        rintro e w7 ⟨rfl, rfl⟩
        go_wp2_with fail
        refine (bot_nil _).mono ?_
        rintro e w7 ⟨rfl, rfl⟩
        go_wp2
        go_ret
        exact ⟨rfl, HB4.out.then b5⟩

end Go.Proofs.YtmmdjbbbjlkmoaaDoor
