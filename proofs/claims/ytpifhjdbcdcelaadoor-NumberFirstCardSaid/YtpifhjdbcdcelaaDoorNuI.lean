/-
  The laws of the layer number: NumberFirst.
-/
import Derived.Test.YtpifhjdbcdcelaaDoorNuG
import Derived.Test.YtpifhjdbcdcelaaDoorNuZ
import Derived.Test.YtpifhjdbcdcelaaDoorRowS
import Derived.Test.YtpifhjdbcdcelaaDoorReg
namespace Go.Proofs.YtpifhjdbcdcelaaDoor
open Go.RowKit Go.Maps
set_option linter.unusedSimpArgs false
set_option linter.unusedVariables false
set_option maxRecDepth 100000

theorem tmod_bd (a : Int) (n : Nat) (h : 0 < n) : -(n : Int) < a.tmod n ∧ a.tmod n < n := by
  by_cases h0 : 0 ≤ a
  · rw [Int.tmod_eq_emod_of_nonneg h0]
    have h1 := Int.emod_nonneg a (show (n : Int) ≠ 0 by omega)
    have h2 := Int.emod_lt_of_pos a (show (0 : Int) < n by omega)
    omega
  · have e := Int.neg_tmod (a := -a) (b := n)
    rw [Int.neg_neg, Int.tmod_eq_emod_of_nonneg (a := -a) (by omega)] at e
    have h1 := Int.emod_nonneg (-a) (show (n : Int) ≠ 0 by omega)
    have h2 := Int.emod_lt_of_pos (-a) (show (0 : Int) < n by omega)
    omega
/-- Where the list is cut. -/
theorem first_index (a : Int) (n : Nat) (hn : n ≤ 1000) : ∃ j : Nat, j ≤ n ∧ (wrap64 (wrap64 (a.tmod ((n : Int) + 1) + n) + 1)).tmod ((n : Int) + 1) = (j : Int) := by
  have hb := tmod_bd a (n + 1) (by omega)
  rw [show ((n + 1 : Nat) : Int) = (n : Int) + 1 from by omega] at hb
  have e1 : wrap64 (a.tmod ((n : Int) + 1) + n) = a.tmod ((n : Int) + 1) + n := by unfold wrap64; omega
  have e2 : wrap64 (a.tmod ((n : Int) + 1) + n + 1) = a.tmod ((n : Int) + 1) + n + 1 := by unfold wrap64; omega
  rw [e1, e2, Int.tmod_eq_emod_of_nonneg (a := a.tmod ((n : Int) + 1) + n + 1) (by omega)]
  have h3 := Int.emod_nonneg (a.tmod ((n : Int) + 1) + n + 1) (show ((n : Int) + 1) ≠ 0 by omega)
  have h4 := Int.emod_lt_of_pos (a.tmod ((n : Int) + 1) + n + 1) (show (0 : Int) < (n : Int) + 1 by omega)
  exact ⟨((a.tmod ((n : Int) + 1) + n + 1) % ((n : Int) + 1)).toNat, by omega, by omega⟩
theorem ints_one (l : List Int) : ∀ u ∈ ints l, u.oneCell' = true := by
  intro u hu
  obtain ⟨x, _, rfl⟩ := List.mem_map.1 hu
  rfl

set_option maxHeartbeats 8000000 in
theorem numberFirst_walk (w : World) (h7 : NuW w) (A0 : Option Addr) (c0 : Nat) (z0 : List Int) (r0 : RowOf w A0 c0 (z0.map (Value.int .i64))) (w0 : ∀ n ∈ z0, (Lit.int .i64 n).wf = true) (a1 : Int) (w1 : (Lit.int .i64 a1).wf = true) (a2 : Int) (w2 : (Lit.int .i64 a2).wf = true) :
    Calls Tryd.prog 3 #[.slice A0 z0.length c0, .int .i64 a1, .int .i64 a2] w fun e w' => e = .returned (.bool true) ∧ Below w.heap.size w w' := by
  have CA := Lib.hid (alive17_any w)
  have hle : z0.length ≤ c0 := by have := r0.1; simpa using this
  have hcap := r0.2.1
  unfold maxLen at hcap
  clear w0 h7
  by_cases hz : 60 < z0.length
  · go_enter Tryd.func3, Tryd.ntmps3
    go_wp2_with fail
    refine CA.out.mono ?_
    rintro e w1 ⟨rfl, b1⟩
    go_wp2
    go_ret
    exact ⟨rfl, b1⟩
  have hz0 : z0.length ≤ 60 := by omega
  clear hz
  by_cases hb2 : 1 ≤ a2 ∧ a2 ≤ 6
  · obtain ⟨g1, g2⟩ := hb2
    go_enter Tryd.func3, Tryd.ntmps3
    go_wp2_with fail
    refine CA.out.mono ?_
    rintro e w1 ⟨rfl, b1⟩
    go_wp2
    go_ret
    exact ⟨rfl, b1⟩
  have hok : okLevel a2 = false := by unfold okLevel; simp; omega
  have hcase : a2 < 1 ∨ (1 ≤ a2 ∧ 6 < a2) := by omega
  obtain ⟨j, hj, hjx⟩ := first_index a1 z0.length (by omega)
  have R0 := Lib.hid r0
  have HOK := Lib.hid hok
  have ca := fun A c W hr => all_any A c z0 W hr (by omega)
  have CL := Lib.hid ca
  clear hb2 hok r0 w1 w2 ca
  have hg60 : decide ((60 : Int) < (z0.length : Int)) = false := by simp; omega
  have hn1 : ¬ (z0.length : Int) + 1 = 0 := by omega
  rcases hcase with g1 | ⟨g1, g2⟩
  all_goals
    go_enter Tryd.func3, Tryd.ntmps3
    go_wp2_with fail
    refine CA.out.mono ?_
    rintro e w1 ⟨rfl, b1⟩
    have HB1 := Lib.hid b1
    have CL1 := Lib.hid (CL.out A0 c0 w1 (R0.out.below b1))
    clear b1
    go_wp2_with fail
    refine CL1.out.mono ?_
    rintro e w2 ⟨v1, rfl, hv1, b2⟩
    have HV1 := Lib.hid (own_low hv1 HB1.out.size)
    have HB2 := Lib.hid (HB1.out.then b2)
    obtain ⟨Av, cv, rfl, hrv, _⟩ := RowOf.own HV1.out
    clear hv1 b2 CL1 hrv hjx hn1
    go_wp2_with fail
    go_cut [8] from 41 to 51 (fun mv wx => (∃ Am cm, mv = .slice Am (z0.length + 1) cm ∧ RowOf wx Am cm (ints (z0.take j ++ a2 :: z0.drop j))) ∧ Below w2.heap.size w2 wx)
    case first =>
      have hsl1 := fun W => slice_hiI A0 z0.length c0 j (by omega) W
      have hsl2 := fun W => slice_loI A0 z0.length c0 j hj W
      refine wp_region_N (fun _ => True) (fun _ => true) (by kernel_rfl) ?_
      have HS := Lib.hid True.intro
      have HRd := Lib.hid (show RowOf w2.drew A0 c0 (ints z0) from rowOf_heap (w := w2) rfl (R0.out.below HB2.out))
      have HBd := Lib.hid ((Below.refl w2.heap.size w2).drew)
      have HSD := Lib.hid (show w2.drew.heap.size = w2.heap.size from rfl)
      generalize w2.drew = wd at *
      refine wpAnyN_take_at 0 41 (v := ?_) rfl rfl (by kernel_rfl) (by kernel_rfl) (by kernel_rfl) (by kernel_rfl) (by kernel_rfl) (fun _ _ _ h => h) (by rfl) ?_ HS.out ?_
      rotate_left
      · intro W hSw; (try dsimp only at hSw); go_simp; (try with_reducible rfl)
      simp only [Act.put, List.setIfInBounds_toArray, List.set_cons_zero, List.set_cons_succ]
      refine wpAnyN_take_at 1 42 (v := ?_) rfl rfl (by kernel_rfl) (by kernel_rfl) (by kernel_rfl) (by kernel_rfl) (by kernel_rfl) (fun _ _ _ h => h) (by rfl) ?_ HS.out ?_
      rotate_left
      · intro W hSw; (try dsimp only at hSw); go_simp; (try with_reducible rfl)
      simp only [Act.put, List.setIfInBounds_toArray, List.set_cons_zero, List.set_cons_succ]
      refine wpAnyN_take_at 2 43 (v := ?_) rfl rfl (by kernel_rfl) (by kernel_rfl) (by kernel_rfl) (by kernel_rfl) (by kernel_rfl) (fun _ _ _ h => h) (by rfl) ?_ HS.out ?_
      rotate_left
      · intro W hSw; (try dsimp only at hSw); go_simp; (try with_reducible rfl)
      simp only [Act.put, List.setIfInBounds_toArray, List.set_cons_zero, List.set_cons_succ]
      refine wpAnyN_take_at 4 45 (v := ?_) rfl rfl (by kernel_rfl) (by kernel_rfl) (by kernel_rfl) (by kernel_rfl) (by kernel_rfl) (fun _ _ _ h => h) (by rfl) ?_ HS.out ?_
      rotate_left
      · intro W hSw; (try dsimp only at hSw); go_simp; (try with_reducible rfl)
      simp only [Act.put, List.setIfInBounds_toArray, List.set_cons_zero, List.set_cons_succ]
      refine wpAnyN_take_at 7 48 (v := ?_) rfl rfl (by kernel_rfl) (by kernel_rfl) (by kernel_rfl) (by kernel_rfl) (by kernel_rfl) (fun _ _ _ h => h) (by rfl) ?_ HS.out ?_
      rotate_left
      · intro W hSw; (try dsimp only at hSw); go_simp; (try with_reducible rfl)
      simp only [Act.put, List.setIfInBounds_toArray, List.set_cons_zero, List.set_cons_succ]
      refine wpAnyN_take_at 8 49 (v := ?_) rfl rfl (by kernel_rfl) (by kernel_rfl) (by kernel_rfl) (by kernel_rfl) (by kernel_rfl) (fun _ _ _ h => h) (by rfl) ?_ HS.out ?_
      rotate_left
      · intro W hSw; (try dsimp only at hSw); go_simp; (try with_reducible rfl)
      simp only [Act.put, List.setIfInBounds_toArray, List.set_cons_zero, List.set_cons_succ]
      refine wpAnyN_take_at 9 50 (v := ?_) rfl rfl (by kernel_rfl) (by kernel_rfl) (by kernel_rfl) (by kernel_rfl) (by kernel_rfl) (fun _ _ _ h => h) (by rfl) ?_ HS.out ?_
      rotate_left
      · intro W hSw; (try dsimp only at hSw); go_simp; (try with_reducible rfl)
      simp only [Act.put, List.setIfInBounds_toArray, List.set_cons_zero, List.set_cons_succ]
      clear hsl1 hsl2
      obtain ⟨i0, hi, hz0', hz1, hz2⟩ := info_parts infoInt1
      have hnt : (ints (z0.take j)).length = j := by rw [ints, List.length_map, List.length_take]; omega
      have hnd : (ints (z0.drop j)).length = z0.length - j := by rw [ints, List.length_map, List.length_drop]
      have htk : RowOf wd A0 c0 (ints (z0.take j)) := by have := HRd.out.take j; rwa [show (ints z0).take j = ints (z0.take j) from by simp [ints]] at this
      have hdr := fun (W : World) (hW : RowOf W A0 c0 (ints z0)) => (show RowOf W (dropR A0 c0 j) (c0 - j) (ints (z0.drop j)) from by have := hW.dropG (k := j) (by rw [ints, List.length_map]; exact hj); rwa [show (ints z0).drop j = ints (z0.drop j) from by simp [ints]] at this)
      have hfin : (ints (z0.take j) ++ [.int .i64 a2]) ++ ints (z0.drop j) = ints (z0.take j ++ a2 :: z0.drop j) := by simp only [ints, List.map_append, List.map_cons, List.append_assoc, List.cons_append, List.nil_append]
      have HTK := Lib.hid htk
      have HDR := Lib.hid hdr
      have HFIN := Lib.hid hfin
      have HNT := Lib.hid hnt
      have HND := Lib.hid hnd
      clear htk hdr hfin hnt hnd
      refine wpAnyN_two (i := 3) (j := 5) rfl rfl (by kernel_rfl) (fun K hK => ?_) (fun K hK => ?_)
      · rw [if_pos (by rfl)]
        refine wp_append_row _ _ 22 rfl wd.heap.size 3 i0 (.int .i64 0) 8 Tryd.underlying22 hi hz0' hz1 hz2 rfl (.slice none 0 0) 0 [] rfl (World.ownsRow_nil _ _ _ _) A0 j c0 (ints (z0.take j)) rfl HNT.out HTK.out (ints_one _) (by unfold maxLen; omega) (by omega) (Nat.le_refl _) ?_
        intro v3 w3 hown3 hgrow3
        have hb3 : Below wd.heap.size wd w3 := (Below.refl _ _).grown hgrow3 (Nat.le_refl _) (fun k hk => by simp [Value.ownBlock] at hk)
        have hs3 := hb3.size
        have HB3 := Lib.hid hb3
        rw [List.nil_append, Nat.zero_add] at hown3
        refine hK _ _ (fun _ => trivial) ?_
        clear hK hgrow3 hb3
        simp only [Act.put, List.setIfInBounds_toArray, List.set_cons_zero, List.set_cons_succ]
        refine wpAnyN_one (i := 5) rfl (by kernel_rfl) (fun K hK => ?_)
        go_simp
        have hnw := rowOf_lit w3 3 [.int .i64 a2] (by show 1 ≤ maxLen; decide)
        have hrow3 := hown3.alloc (.cells #[.int .i64 a2] 3)
        have hsa := alloc_size w3 (.cells #[.int .i64 a2] 3)
        have hb3a := HB3.out.alloc hs3 (.cells #[.int .i64 a2] 3)
        refine hK _ _ (fun _ => trivial) ?_
        clear hK
        rw [show [Value.int IntKind.i64 a2].toArray = #[.int .i64 a2] from rfl] at hnw
        generalize w3.alloc (.cells #[.int .i64 a2] 3) = w3a at *
        refine wpAnyN_one (i := 6) rfl (by kernel_rfl) (fun K hK => ?_)
        rw [if_pos (by rfl)]
        refine wp_append_row _ _ 22 rfl wd.heap.size 3 i0 (.int .i64 0) 8 Tryd.underlying22 hi hz0' hz1 hz2 rfl v3 j (ints (z0.take j)) rfl hrow3 (some ⟨w3.heap.size, 0, none⟩) 1 1 [.int .i64 a2] rfl rfl hnw (by intro u hu; simp at hu; subst hu; rfl) (by unfold maxLen; omega) (by omega) (by omega) ?_
        intro v4 w4 hown4 hgrow4
        have HB4 := Lib.hid (hb3a.trans (below_of_grown hgrow4 (fun g hg => (hrow3.lt g hg).1) (by omega)))
        have hs4 := HB4.out.size
        refine hK _ _ (fun _ => trivial) ?_
        clear hK hgrow4 hrow3 hnw hown3 hb3a
        simp only [Act.put, List.setIfInBounds_toArray, List.set_cons_zero, List.set_cons_succ]
        refine wpAnyN_restT 10 [_, _] (fun _ => trivial) rfl (by kernel_rfl) ?_
        refine wpList_plain rfl fun K hK => ?_
        refine wp_append_row _ _ 22 rfl wd.heap.size 3 i0 (.int .i64 0) 8 Tryd.underlying22 hi hz0' hz1 hz2 rfl v4 (j + 1) (ints (z0.take j) ++ [.int .i64 a2]) rfl hown4 (dropR A0 c0 j) (z0.length - j) (c0 - j) (ints (z0.drop j)) rfl HND.out (HDR.out _ (HRd.out.below HB4.out)) (ints_one _) (by unfold maxLen; omega) (by omega) (by omega) ?_
        intro v5 w5 hown5 hgrow5
        have HB5 := Lib.hid (HB4.out.trans (below_of_grown hgrow5 (fun g hg => (hown4.lt g hg).1) (by omega)))
        rw [HFIN.out, show j + 1 + (z0.length - j) = z0.length + 1 from by omega] at hown5
        obtain ⟨A5, c5, rfl, hr5, _⟩ := RowOf.own hown5
        have HR5 := Lib.hid hr5
        refine hK _ _ ?_
        clear hK hgrow5 hown4 hown5 hr5
        simp only [Act.put, List.setIfInBounds_toArray, List.set_cons_zero, List.set_cons_succ]
        go_wp2
        go_meet
        exact ⟨⟨A5, c5, rfl, HR5.out⟩, HBd.out.trans (by have := HB5.out; rwa [HSD.out] at this)⟩
      · go_simp
        have hnw := rowOf_lit wd 3 [.int .i64 a2] (by show 1 ≤ maxLen; decide)
        have hsa := alloc_size wd (.cells #[.int .i64 a2] 3)
        have hba2 : Below wd.heap.size wd (wd.alloc (.cells #[.int .i64 a2] 3)) := (Below.refl _ wd).alloc (Nat.le_refl _) _
        have HRa := Lib.hid (HRd.out.below hba2)
        have HTa := Lib.hid (HTK.out.below hba2)
        have HBA := Lib.hid hba2
        refine hK _ _ (fun _ => trivial) ?_
        clear hK hba2
        rw [show [Value.int IntKind.i64 a2].toArray = #[.int .i64 a2] from rfl] at hnw
        generalize wd.alloc (.cells #[.int .i64 a2] 3) = wa at *
        refine wpAnyN_one (i := 3) rfl (by kernel_rfl) (fun K hK => ?_)
        rw [if_pos (by rfl)]
        refine wp_append_row _ _ 22 rfl (wd.heap.size + 1) 3 i0 (.int .i64 0) 8 Tryd.underlying22 hi hz0' hz1 hz2 rfl (.slice none 0 0) 0 [] rfl (World.ownsRow_nil _ _ _ _) A0 j c0 (ints (z0.take j)) rfl HNT.out HTa.out (ints_one _) (by unfold maxLen; omega) (by omega) (by omega) ?_
        intro v3 w3 hown3 hgrow3
        have hb3 : Below (wd.heap.size + 1) wa w3 := (Below.refl _ _).grown hgrow3 (by omega) (fun k hk => by simp [Value.ownBlock] at hk)
        have hb3w : Below wa.heap.size wa w3 := by rw [hsa]; exact hb3
        have hs3 := hb3.size
        rw [List.nil_append, Nat.zero_add] at hown3
        have hnw3 := hnw.below hb3w
        have HB3 := Lib.hid (HBA.out.trans (hb3.mono (by omega)))
        refine hK _ _ (fun _ => trivial) ?_
        clear hK hgrow3 hb3 hnw hb3w
        simp only [Act.put, List.setIfInBounds_toArray, List.set_cons_zero, List.set_cons_succ]
        refine wpAnyN_one (i := 6) rfl (by kernel_rfl) (fun K hK => ?_)
        rw [if_pos (by rfl)]
        refine wp_append_row _ _ 22 rfl (wd.heap.size + 1) 3 i0 (.int .i64 0) 8 Tryd.underlying22 hi hz0' hz1 hz2 rfl v3 j (ints (z0.take j)) rfl hown3 (some ⟨wd.heap.size, 0, none⟩) 1 1 [.int .i64 a2] rfl rfl hnw3 (by intro u hu; simp at hu; subst hu; rfl) (by unfold maxLen; omega) (by omega) (by omega) ?_
        intro v4 w4 hown4 hgrow4
        have HB4 := Lib.hid (HB3.out.trans (below_of_grown (B := wd.heap.size) hgrow4 (fun g hg => by have := (hown3.lt g hg).1; omega) (by omega)))
        have hs4 := hgrow4.size
        refine hK _ _ (fun _ => trivial) ?_
        clear hK hgrow4 hown3 hnw3
        simp only [Act.put, List.setIfInBounds_toArray, List.set_cons_zero, List.set_cons_succ]
        refine wpAnyN_restT 10 [_, _] (fun _ => trivial) rfl (by kernel_rfl) ?_
        refine wpList_plain rfl fun K hK => ?_
        refine wp_append_row _ _ 22 rfl (wd.heap.size + 1) 3 i0 (.int .i64 0) 8 Tryd.underlying22 hi hz0' hz1 hz2 rfl v4 (j + 1) (ints (z0.take j) ++ [.int .i64 a2]) rfl hown4 (dropR A0 c0 j) (z0.length - j) (c0 - j) (ints (z0.drop j)) rfl HND.out (HDR.out _ (HRd.out.below HB4.out)) (ints_one _) (by unfold maxLen; omega) (by omega) (by omega) ?_
        intro v5 w5 hown5 hgrow5
        have HB5 := Lib.hid (HB4.out.trans (below_of_grown (B := wd.heap.size) hgrow5 (fun g hg => by have := (hown4.lt g hg).1; omega) (by omega)))
        rw [HFIN.out, show j + 1 + (z0.length - j) = z0.length + 1 from by omega] at hown5
        obtain ⟨A5, c5, rfl, hr5, _⟩ := RowOf.own hown5
        have HR5 := Lib.hid hr5
        refine hK _ _ ?_
        clear hK hgrow5 hown4 hown5 hr5
        simp only [Act.put, List.setIfInBounds_toArray, List.set_cons_zero, List.set_cons_succ]
        go_wp2
        go_meet
        exact ⟨⟨A5, c5, rfl, HR5.out⟩, HBd.out.trans (by have := HB5.out; rwa [HSD.out] at this)⟩
    case rest =>
      obtain ⟨⟨Am, cm, rfl, hrm⟩, bm⟩ := hcut
      have hml : (z0.take j ++ a2 :: z0.drop j).length = z0.length + 1 := by simp; omega
      have cb := all_any Am cm (z0.take j ++ a2 :: z0.drop j) wc hrm (by omega)
      rw [allN_bad _ _ _ HOK.out] at cb
      rw [hml] at cb
      have HRM := Lib.hid hrm
      have HBm := Lib.hid (HB2.out.then bm)
      have HV1m := Lib.hid (ownsRow_below HV1.out bm)
      have hbml : (allN (z0.take j) ++ [] :: allGo (cntAll zero6 (z0.take j)) (z0.drop j)).length = z0.length + 1 := by
        rw [List.length_append, List.length_cons, allN_len, allGo_len, List.length_take, List.length_drop]; omega
      have hall : allN z0 = allN (z0.take j) ++ allGo (cntAll zero6 (z0.take j)) (z0.drop j) := by
        have := allN_both (z0.take j) (z0.drop j)
        rwa [List.take_append_drop] at this
      have hatl : (allN (z0.take j)).length = j := by rw [allN_len, List.length_take]; omega
      have hgl : (allGo (cntAll zero6 (z0.take j)) (z0.drop j)).length = z0.length - j := by rw [allGo_len, List.length_drop]
      generalize hPa : allN (z0.take j) = Pa at *
      generalize allGo (cntAll zero6 (z0.take j)) (z0.drop j) = Pb at *
      have CB := Lib.hid cb
      have HBML := Lib.hid hbml
      have HALL := Lib.hid hall
      have HATL := Lib.hid hatl
      have HGL := Lib.hid hgl
      have HPA := Lib.hid hPa
      clear cb hrm bm hml hbml hall hatl hgl hPa
      go_wp2_with fail
      refine CB.out.mono ?_
      rintro e w5 ⟨v5, rfl, hv5, b5⟩
      have hv5' := own_low hv5 HBm.out.size
      have HV5 := Lib.hid hv5'
      obtain ⟨Ab, cb5, rfl, hrb, _⟩ := RowOf.own hv5'
      have HV1b := Lib.hid (ownsRow_below HV1m.out b5)
      have HB5 := Lib.hid (HBm.out.then b5)
      obtain ⟨gb, hab, hgb, hcb⟩ := row_cell (xs := strs (Pa ++ [] :: Pb)) (by rw [strs_length, HBML.out]; exact hv5') (k := j) (by rw [strs_length, HBML.out]; omega)
      subst hab
      have hbj : (strs (Pa ++ [] :: Pb))[j]'(by rw [strs_length, HBML.out]; omega) = .string ⟨#[]⟩ := by
        rw [strs_get]
        simp only [List.getElem_append_right (show Pa.length ≤ j from by rw [HATL.out]; exact Nat.le_refl _), HATL.out, Nat.sub_self]
        rfl
      rw [hbj] at hcb
      have hcv2 : z0.length ≤ cv ∧ cv ≤ 9223372036854775807 := by
        obtain ⟨A9, c9, e9, h9, _⟩ := RowOf.own HV1b.out
        cases e9
        have h1 := h9.1
        have h2 := h9.2.1
        rw [strs_length, allN_len] at h1
        unfold maxLen at h2
        exact ⟨h1, h2⟩
      have hcb2 : z0.length + 1 ≤ cb5 ∧ cb5 ≤ 9223372036854775807 := by
        have h1 := hrb.1
        have h2 := hrb.2.1
        rw [strs_length, HBML.out] at h1
        unfold maxLen at h2
        exact ⟨h1, h2⟩
      have hslA := fun W => slice_hiS Av z0.length cv j (by omega) W
      have hslL := fun W => slice_hiI A0 z0.length c0 j (by omega) W
      have hslB := fun W => slice_hiS (some ⟨gb, 0, none⟩) (z0.length + 1) cb5 j (by omega) W
      have hslC := fun W => slice_loS (some ⟨gb, 0, none⟩) (z0.length + 1) cb5 (j + 1) (by omega) W
      rw [show ((j + 1 : Nat) : Int) = (j : Int) + 1 from by omega] at hslC
      have hjn : (j : Int) < (z0.length : Int) + 1 := by omega
      have hj1 : (0 : Int) ≤ (j : Int) + 1 := by omega
      have hwj : IntKind.i64.wrap ((j : Int) + 1) = (j : Int) + 1 := by rw [IntKind.wrap_i64]; omega
      clear hv5 hv5' b5 hbj
      go_wp2_with fail
      refine wp_region_N (fun W => W.cell? ⟨gb, j, none⟩ = some (.string ⟨#[]⟩)) (fun n => decide (n < 42)) (by kernel_rfl) ?_
      have HS := Lib.hid (show w5.drew.cell? ⟨gb, j, none⟩ = some (.string ⟨#[]⟩) from hcb)
      have HRd := Lib.hid (show RowOf w5.drew A0 c0 (ints z0) from rowOf_heap (w := w5) rfl (R0.out.below HB5.out))
      have HVd := Lib.hid (own_heap (w := w5) (w' := w5.drew) rfl HV1b.out)
      have HBR := Lib.hid (show RowOf w5.drew (some ⟨gb, 0, none⟩) cb5 (strs (Pa ++ [] :: Pb)) from rowOf_heap (w := w5) rfl hrb)
      have HBd := Lib.hid (HB5.out.drew)
      have hgd : gb < w5.drew.heap.size := hgb
      clear hcb hrb hgb
      generalize w5.drew = wd at *
      refine wpAnyN_take_at 0 54 (v := ?_) rfl rfl (by kernel_rfl) (by kernel_rfl) (by kernel_rfl) (by kernel_rfl) (by kernel_rfl) (fun _ _ _ h => h) (by rfl) ?_ HS.out ?_
      rotate_left
      · intro W hSw; (try dsimp only at hSw); go_simp; (try with_reducible rfl)
      simp only [Act.put, List.setIfInBounds_toArray, List.set_cons_zero, List.set_cons_succ]
      refine wpAnyN_take_at 1 55 (v := ?_) rfl rfl (by kernel_rfl) (by kernel_rfl) (by kernel_rfl) (by kernel_rfl) (by kernel_rfl) (fun _ _ _ h => h) (by rfl) ?_ HS.out ?_
      rotate_left
      · intro W hSw; (try dsimp only at hSw); go_simp; (try with_reducible rfl)
      simp only [Act.put, List.setIfInBounds_toArray, List.set_cons_zero, List.set_cons_succ]
      refine wpAnyN_take_at 2 56 (v := ?_) rfl rfl (by kernel_rfl) (by kernel_rfl) (by kernel_rfl) (by kernel_rfl) (by kernel_rfl) (fun _ _ _ h => h) (by rfl) ?_ HS.out ?_
      rotate_left
      · intro W hSw; (try dsimp only at hSw); go_simp; (try with_reducible rfl)
      simp only [Act.put, List.setIfInBounds_toArray, List.set_cons_zero, List.set_cons_succ]
      refine wpAnyN_take_at 3 57 (v := ?_) rfl rfl (by kernel_rfl) (by kernel_rfl) (by kernel_rfl) (by kernel_rfl) (by kernel_rfl) (fun _ _ _ h => h) (by rfl) ?_ HS.out ?_
      rotate_left
      · intro W hSw; (try dsimp only at hSw); go_simp; (try with_reducible rfl)
      simp only [Act.put, List.setIfInBounds_toArray, List.set_cons_zero, List.set_cons_succ]
      refine wpAnyN_take_at 4 58 (v := ?_) rfl rfl (by kernel_rfl) (by kernel_rfl) (by kernel_rfl) (by kernel_rfl) (by kernel_rfl) (fun _ _ _ h => h) (by rfl) ?_ HS.out ?_
      rotate_left
      · intro W hSw; (try dsimp only at hSw); go_simp; (try with_reducible rfl)
      simp only [Act.put, List.setIfInBounds_toArray, List.set_cons_zero, List.set_cons_succ]
      refine wpAnyN_take_at 5 59 (v := ?_) rfl rfl (by kernel_rfl) (by kernel_rfl) (by kernel_rfl) (by kernel_rfl) (by kernel_rfl) (fun _ _ _ h => h) (by rfl) ?_ HS.out ?_
      rotate_left
      · intro W hSw; (try dsimp only at hSw); go_simp; (try with_reducible rfl)
      simp only [Act.put, List.setIfInBounds_toArray, List.set_cons_zero, List.set_cons_succ]
      refine wpAnyN_take_at 6 60 (v := ?_) rfl rfl (by kernel_rfl) (by kernel_rfl) (by kernel_rfl) (by kernel_rfl) (by kernel_rfl) (fun _ _ _ h => h) (by rfl) ?_ HS.out ?_
      rotate_left
      · intro W hSw; (try dsimp only at hSw); go_simp; (try with_reducible rfl)
      simp only [Act.put, List.setIfInBounds_toArray, List.set_cons_zero, List.set_cons_succ]
      refine wpAnyN_take_at 7 61 (v := ?_) rfl rfl (by kernel_rfl) (by kernel_rfl) (by kernel_rfl) (by kernel_rfl) (by kernel_rfl) (fun _ _ _ h => h) (by rfl) ?_ HS.out ?_
      rotate_left
      · intro W hSw; (try dsimp only at hSw); go_simp; (try with_reducible rfl)
      simp only [Act.put, List.setIfInBounds_toArray, List.set_cons_zero, List.set_cons_succ]
      refine wpAnyN_take_at 8 62 (v := ?_) rfl rfl (by kernel_rfl) (by kernel_rfl) (by kernel_rfl) (by kernel_rfl) (by kernel_rfl) (fun _ _ _ h => h) (by rfl) ?_ HS.out ?_
      rotate_left
      · intro W hSw; (try dsimp only at hSw); go_simp; (try with_reducible rfl)
      simp only [Act.put, List.setIfInBounds_toArray, List.set_cons_zero, List.set_cons_succ]
      refine wpAnyN_take_at 9 63 (v := ?_) rfl rfl (by kernel_rfl) (by kernel_rfl) (by kernel_rfl) (by kernel_rfl) (by kernel_rfl) (fun _ _ _ h => h) (by rfl) ?_ HS.out ?_
      rotate_left
      · intro W hSw; (try dsimp only at hSw); go_simp; (try with_reducible rfl)
      simp only [Act.put, List.setIfInBounds_toArray, List.set_cons_zero, List.set_cons_succ]
      refine wpAnyN_take_at 10 64 (v := ?_) rfl rfl (by kernel_rfl) (by kernel_rfl) (by kernel_rfl) (by kernel_rfl) (by kernel_rfl) (fun _ _ _ h => h) (by rfl) ?_ HS.out ?_
      rotate_left
      · intro W hSw; (try dsimp only at hSw); go_simp; (try with_reducible rfl)
      simp only [Act.put, List.setIfInBounds_toArray, List.set_cons_zero, List.set_cons_succ]
      refine wpAnyN_take_at 11 65 (v := ?_) rfl rfl (by kernel_rfl) (by kernel_rfl) (by kernel_rfl) (by kernel_rfl) (by kernel_rfl) (fun _ _ _ h => h) (by rfl) ?_ HS.out ?_
      rotate_left
      · intro W hSw; (try dsimp only at hSw); go_simp; (try with_reducible rfl)
      simp only [Act.put, List.setIfInBounds_toArray, List.set_cons_zero, List.set_cons_succ]
      refine wpAnyN_take_at 12 66 (v := ?_) rfl rfl (by kernel_rfl) (by kernel_rfl) (by kernel_rfl) (by kernel_rfl) (by kernel_rfl) (fun _ _ _ h => h) (by rfl) ?_ HS.out ?_
      rotate_left
      · intro W hSw; (try dsimp only at hSw); go_simp; (try with_reducible rfl)
      simp only [Act.put, List.setIfInBounds_toArray, List.set_cons_zero, List.set_cons_succ]
      refine wpAnyN_take_at 13 67 (v := ?_) rfl rfl (by kernel_rfl) (by kernel_rfl) (by kernel_rfl) (by kernel_rfl) (by kernel_rfl) (fun _ _ _ h => h) (by rfl) ?_ HS.out ?_
      rotate_left
      · intro W hSw; (try dsimp only at hSw); go_simp; (try with_reducible rfl)
      simp only [Act.put, List.setIfInBounds_toArray, List.set_cons_zero, List.set_cons_succ]
      refine wpAnyN_take_at 14 68 (v := ?_) rfl rfl (by kernel_rfl) (by kernel_rfl) (by kernel_rfl) (by kernel_rfl) (by kernel_rfl) (fun _ _ _ h => h) (by rfl) ?_ HS.out ?_
      rotate_left
      · intro W hSw; (try dsimp only at hSw); go_simp; (try with_reducible rfl)
      simp only [Act.put, List.setIfInBounds_toArray, List.set_cons_zero, List.set_cons_succ]
      refine wpAnyN_take_at 15 69 (v := ?_) rfl rfl (by kernel_rfl) (by kernel_rfl) (by kernel_rfl) (by kernel_rfl) (by kernel_rfl) (fun _ _ _ h => h) (by rfl) ?_ HS.out ?_
      rotate_left
      · intro W hSw; (try dsimp only at hSw); go_simp; (try with_reducible rfl)
      simp only [Act.put, List.setIfInBounds_toArray, List.set_cons_zero, List.set_cons_succ]
      refine wpAnyN_take_at 16 70 (v := ?_) rfl rfl (by kernel_rfl) (by kernel_rfl) (by kernel_rfl) (by kernel_rfl) (by kernel_rfl) (fun _ _ _ h => h) (by rfl) ?_ HS.out ?_
      rotate_left
      · intro W hSw; (try dsimp only at hSw); go_simp; (try with_reducible rfl)
      simp only [Act.put, List.setIfInBounds_toArray, List.set_cons_zero, List.set_cons_succ]
      refine wpAnyN_take_at 17 71 (v := ?_) rfl rfl (by kernel_rfl) (by kernel_rfl) (by kernel_rfl) (by kernel_rfl) (by kernel_rfl) (fun _ _ _ h => h) (by rfl) ?_ HS.out ?_
      rotate_left
      · intro W hSw; (try dsimp only at hSw); go_simp; (try with_reducible rfl)
      simp only [Act.put, List.setIfInBounds_toArray, List.set_cons_zero, List.set_cons_succ]
      refine wpAnyN_take_at 18 72 (v := ?_) rfl rfl (by kernel_rfl) (by kernel_rfl) (by kernel_rfl) (by kernel_rfl) (by kernel_rfl) (fun _ _ _ h => h) (by rfl) ?_ HS.out ?_
      rotate_left
      · intro W hSw; (try dsimp only at hSw); go_simp; (try with_reducible rfl)
      simp only [Act.put, List.setIfInBounds_toArray, List.set_cons_zero, List.set_cons_succ]
      refine wpAnyN_take_at 19 73 (v := ?_) rfl rfl (by kernel_rfl) (by kernel_rfl) (by kernel_rfl) (by kernel_rfl) (by kernel_rfl) (fun _ _ _ h => h) (by rfl) ?_ HS.out ?_
      rotate_left
      · intro W hSw; (try dsimp only at hSw); go_simp; (try with_reducible rfl)
      simp only [Act.put, List.setIfInBounds_toArray, List.set_cons_zero, List.set_cons_succ]
      refine wpAnyN_take_at 20 74 (v := ?_) rfl rfl (by kernel_rfl) (by kernel_rfl) (by kernel_rfl) (by kernel_rfl) (by kernel_rfl) (fun _ _ _ h => h) (by rfl) ?_ HS.out ?_
      rotate_left
      · intro W hSw; (try dsimp only at hSw); go_simp; (try with_reducible rfl)
      simp only [Act.put, List.setIfInBounds_toArray, List.set_cons_zero, List.set_cons_succ]
      refine wpAnyN_take_at 21 75 (v := ?_) rfl rfl (by kernel_rfl) (by kernel_rfl) (by kernel_rfl) (by kernel_rfl) (by kernel_rfl) (fun _ _ _ h => h) (by rfl) ?_ HS.out ?_
      rotate_left
      · intro W hSw; (try dsimp only at hSw); go_simp; (try with_reducible rfl)
      simp only [Act.put, List.setIfInBounds_toArray, List.set_cons_zero, List.set_cons_succ]
      refine wpAnyN_take_at 22 76 (v := ?_) rfl rfl (by kernel_rfl) (by kernel_rfl) (by kernel_rfl) (by kernel_rfl) (by kernel_rfl) (fun _ _ _ h => h) (by rfl) ?_ HS.out ?_
      rotate_left
      · intro W hSw; (try dsimp only at hSw); go_simp; (try with_reducible rfl)
      simp only [Act.put, List.setIfInBounds_toArray, List.set_cons_zero, List.set_cons_succ]
      refine wpAnyN_take_at 23 77 (v := ?_) rfl rfl (by kernel_rfl) (by kernel_rfl) (by kernel_rfl) (by kernel_rfl) (by kernel_rfl) (fun _ _ _ h => h) (by rfl) ?_ HS.out ?_
      rotate_left
      · intro W hSw; (try dsimp only at hSw); go_simp; (try with_reducible rfl)
      simp only [Act.put, List.setIfInBounds_toArray, List.set_cons_zero, List.set_cons_succ]
      refine wpAnyN_take_at 24 78 (v := ?_) rfl rfl (by kernel_rfl) (by kernel_rfl) (by kernel_rfl) (by kernel_rfl) (by kernel_rfl) (fun _ _ _ h => h) (by rfl) ?_ HS.out ?_
      rotate_left
      · intro W hSw; (try dsimp only at hSw); go_simp; (try with_reducible rfl)
      simp only [Act.put, List.setIfInBounds_toArray, List.set_cons_zero, List.set_cons_succ]
      refine wpAnyN_take_at 25 79 (v := ?_) rfl rfl (by kernel_rfl) (by kernel_rfl) (by kernel_rfl) (by kernel_rfl) (by kernel_rfl) (fun _ _ _ h => h) (by rfl) ?_ HS.out ?_
      rotate_left
      · intro W hSw; (try dsimp only at hSw); go_simp; (try with_reducible rfl)
      simp only [Act.put, List.setIfInBounds_toArray, List.set_cons_zero, List.set_cons_succ]
      have htkL : RowOf wd A0 c0 (ints (z0.take j)) := by have := HRd.out.take j; rwa [show (ints z0).take j = ints (z0.take j) from by simp [ints]] at this
      have c26 := all_any A0 c0 (z0.take j) wd htkL (by rw [List.length_take]; omega)
      rw [List.length_take, Nat.min_eq_left hj, HPA.out] at c26
      have C26 := Lib.hid c26
      clear c26 htkL
      refine wpAnyN_one (i := 26) rfl (by kernel_rfl) (fun K hK => ?_)
      go_simp
      go_at_call 6
      refine C26.out.mono ?_
      rintro e w6 ⟨v6, rfl, hv6, b6⟩
      have hs6 := b6.size
      have HS6 := Lib.hid ((b6.cell (p := ⟨gb, j, none⟩) hgd).trans HS.out)
      have HV6 := Lib.hid (ownsRow_below HVd.out b6)
      have HBR6 := Lib.hid (HBR.out.below b6)
      have HB6 := Lib.hid (HBd.out.then b6)
      rw [← HATL.out] at hv6
      obtain ⟨A6, c6, rfl, hr6, _⟩ := RowOf.own hv6
      have c27 := fun la hla => same_any Av A6 cv c6 la Pa w6 hla hr6
      have htA : RowOf w6 Av cv (strs Pa) := by
        obtain ⟨A9, c9, e9, h9, _⟩ := RowOf.own HV6.out
        cases e9
        have h1 := h9.take j
        rw [HALL.out] at h1
        rwa [show (strs (Pa ++ Pb)).take j = strs Pa from by rw [strs_append, List.take_append_of_le_length (by rw [strs_length, HATL.out]; exact Nat.le_refl _), List.take_of_length_le (by rw [strs_length, HATL.out]; exact Nat.le_refl _)]] at h1
      have c27' := c27 Pa htA
      rw [decide_eq_true (rfl : Pa = Pa), HATL.out] at c27'
      have C27 := Lib.hid c27'
      rw [HATL.out]
      refine hK _ _ (fun _ => HS6.out) ?_
      clear hK c27 c27' htA hv6 hr6 b6 HS HVd HBR HBd HRd
      (try simp only [Act.put, List.setIfInBounds_toArray, List.set_cons_zero, List.set_cons_succ])
      refine wpAnyN_one (i := 27) rfl (by kernel_rfl) (fun K hK => ?_)
      go_simp
      go_at_call 7
      refine C27.out.mono ?_
      rintro e w7 ⟨rfl, n7, rfl⟩
      have HS := Lib.hid (show (w6.drewN n7).cell? ⟨gb, j, none⟩ = some (.string ⟨#[]⟩) from HS6.out)
      have HV7 := Lib.hid (own_heap (w := w6) (w' := w6.drewN n7) rfl HV6.out)
      have HBR7 := Lib.hid (show RowOf (w6.drewN n7) (some ⟨gb, 0, none⟩) cb5 (strs (Pa ++ [] :: Pb)) from rowOf_heap (w := w6) rfl HBR6.out)
      have HB7 := Lib.hid (below_drewN' HB6.out n7)
      have hg7 : gb < (w6.drewN n7).heap.size := by show gb < w6.heap.size; omega
      refine hK _ _ (fun _ => HS.out) ?_
      clear hK HV6 HBR6 HB6 HS6
      (try simp only [Act.put, List.setIfInBounds_toArray, List.set_cons_zero, List.set_cons_succ])
      generalize w6.drewN n7 = w7 at *
      refine wpAnyN_take_at 28 82 (v := ?_) rfl rfl (by kernel_rfl) (by kernel_rfl) (by kernel_rfl) (by kernel_rfl) (by kernel_rfl) (fun _ _ _ h => h) (by rfl) ?_ HS.out ?_
      rotate_left
      · intro W hSw; (try dsimp only at hSw); go_simp; (try with_reducible rfl)
      simp only [Act.put, List.setIfInBounds_toArray, List.set_cons_zero, List.set_cons_succ]
      refine wpAnyN_take_at 29 83 (v := ?_) rfl rfl (by kernel_rfl) (by kernel_rfl) (by kernel_rfl) (by kernel_rfl) (by kernel_rfl) (fun _ _ _ h => h) (by rfl) ?_ HS.out ?_
      rotate_left
      · intro W hSw; (try dsimp only at hSw); go_simp; (try with_reducible rfl)
      simp only [Act.put, List.setIfInBounds_toArray, List.set_cons_zero, List.set_cons_succ]
      refine wpAnyN_take_at 30 84 (v := ?_) rfl rfl (by kernel_rfl) (by kernel_rfl) (by kernel_rfl) (by kernel_rfl) (by kernel_rfl) (fun _ _ _ h => h) (by rfl) ?_ HS.out ?_
      rotate_left
      · intro W hSw; (try dsimp only at hSw); go_simp; (try with_reducible rfl)
      simp only [Act.put, List.setIfInBounds_toArray, List.set_cons_zero, List.set_cons_succ]
      refine wpAnyN_take_at 31 85 (v := ?_) rfl rfl (by kernel_rfl) (by kernel_rfl) (by kernel_rfl) (by kernel_rfl) (by kernel_rfl) (fun _ _ _ h => h) (by rfl) ?_ HS.out ?_
      rotate_left
      · intro W hSw; (try dsimp only at hSw); go_simp; (try with_reducible rfl)
      simp only [Act.put, List.setIfInBounds_toArray, List.set_cons_zero, List.set_cons_succ]
      refine wpAnyN_take_at 32 86 (v := ?_) rfl rfl (by kernel_rfl) (by kernel_rfl) (by kernel_rfl) (by kernel_rfl) (by kernel_rfl) (fun _ _ _ h => h) (by rfl) ?_ HS.out ?_
      rotate_left
      · intro W hSw; (try dsimp only at hSw); go_simp; (try with_reducible rfl)
      simp only [Act.put, List.setIfInBounds_toArray, List.set_cons_zero, List.set_cons_succ]
      refine wpAnyN_take_at 34 88 (v := ?_) rfl rfl (by kernel_rfl) (by kernel_rfl) (by kernel_rfl) (by kernel_rfl) (by kernel_rfl) (fun _ _ _ h => h) (by rfl) ?_ HS.out ?_
      rotate_left
      · intro W hSw; (try dsimp only at hSw); go_simp; (try with_reducible rfl)
      simp only [Act.put, List.setIfInBounds_toArray, List.set_cons_zero, List.set_cons_succ]
      refine wpAnyN_take_at 35 89 (v := ?_) rfl rfl (by kernel_rfl) (by kernel_rfl) (by kernel_rfl) (by kernel_rfl) (by kernel_rfl) (fun _ _ _ h => h) (by rfl) ?_ HS.out ?_
      rotate_left
      · intro W hSw; (try dsimp only at hSw); go_simp; (try with_reducible rfl)
      simp only [Act.put, List.setIfInBounds_toArray, List.set_cons_zero, List.set_cons_succ]
      refine wpAnyN_take_at 36 90 (v := ?_) rfl rfl (by kernel_rfl) (by kernel_rfl) (by kernel_rfl) (by kernel_rfl) (by kernel_rfl) (fun _ _ _ h => h) (by rfl) ?_ HS.out ?_
      rotate_left
      · intro W hSw; (try dsimp only at hSw); go_simp; (try with_reducible rfl)
      simp only [Act.put, List.setIfInBounds_toArray, List.set_cons_zero, List.set_cons_succ]
      refine wpAnyN_take_at 37 91 (v := ?_) rfl rfl (by kernel_rfl) (by kernel_rfl) (by kernel_rfl) (by kernel_rfl) (by kernel_rfl) (fun _ _ _ h => h) (by rfl) ?_ HS.out ?_
      rotate_left
      · intro W hSw; (try dsimp only at hSw); go_simp; (try with_reducible rfl)
      simp only [Act.put, List.setIfInBounds_toArray, List.set_cons_zero, List.set_cons_succ]
      refine wpAnyN_take_at 39 93 (v := ?_) rfl rfl (by kernel_rfl) (by kernel_rfl) (by kernel_rfl) (by kernel_rfl) (by kernel_rfl) (fun _ _ _ h => h) (by rfl) ?_ HS.out ?_
      rotate_left
      · intro W hSw; (try dsimp only at hSw); go_simp; (try with_reducible rfl)
      simp only [Act.put, List.setIfInBounds_toArray, List.set_cons_zero, List.set_cons_succ]
      clear hslA hslL hslB hslC hwj hjn hj1
      obtain ⟨i0, hi, hz0', hz1, hz2⟩ := info_parts infoString
      have htB : RowOf w7 (some ⟨gb, 0, none⟩) cb5 (strs Pa) := by
        have h1 := HBR7.out.take j
        rwa [show (strs (Pa ++ [] :: Pb)).take j = strs Pa from by rw [strs_append, List.take_append_of_le_length (by rw [strs_length, HATL.out]; exact Nat.le_refl _), List.take_of_length_le (by rw [strs_length, HATL.out]; exact Nat.le_refl _)]] at h1
      have hdB := fun (W : World) (hW : RowOf W (some ⟨gb, 0, none⟩) cb5 (strs (Pa ++ [] :: Pb))) => (show RowOf W (dropR (some ⟨gb, 0, none⟩) cb5 (j + 1)) (cb5 - (j + 1)) (strs Pb) from by
        have h1 := hW.dropG (k := j + 1) (by rw [strs_length, HBML.out]; omega)
        rwa [show (strs (Pa ++ [] :: Pb)).drop (j + 1) = strs Pb from by
          rw [strs_append, List.drop_append, strs_length, HATL.out, List.drop_of_length_le (by rw [strs_length, HATL.out]; omega), show j + 1 - j = 1 from by omega]; rfl] at h1)
      have hlA : (strs Pa).length = j := by rw [strs_length]; exact HATL.out
      have hlB : (strs Pb).length = z0.length - j := by rw [strs_length, HGL.out]
      have HTB := Lib.hid htB
      have HDB := Lib.hid hdB
      have HLA := Lib.hid hlA
      have HLB := Lib.hid hlB
      clear htB hdB hlA hlB
      refine wpAnyN_one (i := 33) rfl (by kernel_rfl) (fun K hK => ?_)
      rw [if_pos (by rfl)]
      refine wp_append_row _ _ 24 rfl w7.heap.size 9 i0 (.string ByteArray.empty) 16 Tryd.underlying24 hi hz0' hz1 hz2 rfl (.slice none 0 0) 0 [] rfl (World.ownsRow_nil _ _ _ _) (some ⟨gb, 0, none⟩) j cb5 (strs Pa) rfl HLA.out HTB.out (strs_one' _) (by unfold maxLen; omega) (by omega) (Nat.le_refl _) ?_
      intro v8 w8 hown8 hgrow8
      have hb8 : Below w7.heap.size w7 w8 := (Below.refl _ _).grown hgrow8 (Nat.le_refl _) (fun k hk => by simp [Value.ownBlock] at hk)
      have hs8 := hb8.size
      rw [List.nil_append, Nat.zero_add] at hown8
      have HS8 := Lib.hid ((hb8.cell (p := ⟨gb, j, none⟩) hg7).trans HS.out)
      have HV8 := Lib.hid (ownsRow_below HV7.out hb8)
      have HBR8 := Lib.hid (HBR7.out.below hb8)
      have HB8 := Lib.hid (HB7.out.then hb8)
      refine hK _ _ (fun _ => HS8.out) ?_
      clear hK hgrow8
      simp only [Act.put, List.setIfInBounds_toArray, List.set_cons_zero, List.set_cons_succ]
      refine wpAnyN_one (i := 38) rfl (by kernel_rfl) (fun K hK => ?_)
      rw [if_pos (by rfl)]
      refine wp_append_row _ _ 24 rfl w7.heap.size 9 i0 (.string ByteArray.empty) 16 Tryd.underlying24 hi hz0' hz1 hz2 rfl v8 j (strs Pa) rfl hown8 (dropR (some ⟨gb, 0, none⟩) cb5 (j + 1)) (z0.length - j) (cb5 - (j + 1)) (strs Pb) rfl HLB.out (HDB.out _ HBR8.out) (strs_one' _) (by unfold maxLen; omega) (by omega) (by omega) ?_
      intro v9 w9 hown9 hgrow9
      have hb9 : Below w7.heap.size w8 w9 := below_of_grown hgrow9 (fun g hg => (hown8.lt g hg).1) (by omega)
      have hs9 := hgrow9.size
      have hV9 := HV8.out
      have hv9k : w9.ownsRow w.heap.size 9 1 (.slice Av z0.length cv) z0.length (strs (allN z0)) := ownsRow_below HV7.out (hb8.trans hb9)
      have HS9 := Lib.hid (((hb8.trans hb9).cell (p := ⟨gb, j, none⟩) hg7).trans HS.out)
      have HB9 := Lib.hid (HB7.out.then (hb8.trans hb9))
      rw [← strs_append, ← HALL.out, show j + (z0.length - j) = z0.length from by omega] at hown9
      obtain ⟨A9, c9, rfl, hr9, _⟩ := RowOf.own hown9
      obtain ⟨A8, c8, e8, hr8, _⟩ := RowOf.own hv9k
      cases e8
      have c40 := same_any A9 Av c9 cv (allN z0) (allN z0) w9 hr9 hr8
      rw [decide_eq_true (rfl : allN z0 = allN z0), allN_len] at c40
      have C40 := Lib.hid c40
      refine hK _ _ (fun _ => HS9.out) ?_
      clear hK hgrow9 hown8 hown9 hr9 hr8 hv9k hV9 c40 hb8 hb9
      simp only [Act.put, List.setIfInBounds_toArray, List.set_cons_zero, List.set_cons_succ]
      refine wpAnyN_one (i := 40) rfl (by kernel_rfl) (fun K hK => ?_)
      go_simp
      go_at_call 7
      refine C40.out.mono ?_
      rintro e w10 ⟨rfl, n10, rfl⟩
      have HB10 := Lib.hid (below_drewN' HB9.out n10)
      have HS := Lib.hid (show (w9.drewN n10).cell? ⟨gb, j, none⟩ = some (.string ⟨#[]⟩) from HS9.out)
      refine hK _ _ (fun _ => HS.out) ?_
      clear hK
      generalize w9.drewN n10 = w10 at *
      (try simp only [Act.put, List.setIfInBounds_toArray, List.set_cons_zero, List.set_cons_succ])
      refine wpAnyN_take_at 41 95 (v := ?_) rfl rfl (by kernel_rfl) (by kernel_rfl) (by kernel_rfl) (by kernel_rfl) (by kernel_rfl) (fun _ _ _ h => h) (by rfl) ?_ HS.out ?_
      rotate_left
      · intro W hSw; (try dsimp only at hSw); go_simp; (try with_reducible rfl)
      simp only [Act.put, List.setIfInBounds_toArray, List.set_cons_zero, List.set_cons_succ]
      refine wpAnyN_rest 42 [_] rfl (by kernel_rfl) (by kernel_rfl) ?_
      go_wp2
      go_ret
      exact ⟨rfl, HB10.out⟩

end Go.Proofs.YtpifhjdbcdcelaaDoor
