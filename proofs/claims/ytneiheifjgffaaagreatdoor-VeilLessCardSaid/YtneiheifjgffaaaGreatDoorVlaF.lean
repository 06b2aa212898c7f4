/-
  VeilLess: what is emptied is never longer, but for an LF at its end, and has no more lines; the law's walk.
-/
import Derived.Test.YtneiheifjgffaaaGreatDoorVlaD
namespace Go.Proofs.YtneiheifjgffaaaGreatDoor
open Go.RowKit
set_option linter.unusedSimpArgs false
set_option linter.unusedVariables false
set_option maxRecDepth 100000

set_option maxHeartbeats 8000000 in
theorem veilLess_walk (w : World) (h7 : W7 w) (a0 : Int) (w0 : (Lit.int .i64 a0).wf = true) (a1 : ByteArray) (w1 : a1.size ≤ maxLen) :
    Calls Tryz.prog 7 #[.int .i64 a0, .string a1] w fun e w' => e = .returned (.bool true) ∧ Below w.heap.size w w' := by
  have ca := alive7_any w h7
  by_cases hbig : 1000 < a1.size
  · go_enter Tryz.func7, Tryz.ntmps7
    go_wp2_with fail
    refine ca.mono ?_
    rintro e w1 ⟨rfl, b1⟩
    go_wp2
    go_ret
    exact ⟨rfl, b1⟩
  have hD : a1.data.toList.length ≤ 1000 := by
    have : a1.data.toList.length = a1.size := by simp
    omega
  have hsz : a1.size ≤ 1000 := by omega
  clear hbig
  obtain ⟨j, hj, hm⟩ := mod4 a0
  go_enter Tryz.func7, Tryz.ntmps7
  go_wp2_with fail
  refine ca.mono ?_
  rintro e w1 ⟨rfl, b1⟩
  have HB1 := Lib.hid b1
  have HW1 := Lib.hid (h7.below b1)
  clear b1 ca h7
  go_wp2_with fail
  refine (diamond_any _).mono ?_
  rintro e w2 ⟨d1, d2, rfl, hd, b2⟩
  obtain ⟨g, off, rfl, hg, hcell⟩ := dia_cell hd j hj
  have HB2 := Lib.hid (HB1.out.then b2)
  have HW2 := Lib.hid (HW1.out.below b2)
  have hb0 : Below w2.heap.size w2 (w2.alloc (.cells #[.slice (some ⟨g, off, none⟩) 4 4, .slice d2 4 4] 26)) := (Below.refl _ w2).alloc (Nat.le_refl _) _
  have hbx := box_cell w2 (.slice (some ⟨g, off, none⟩) 4 4) (.slice d2 4 4) 26
  have hs0 := alloc_size w2 (.cells #[.slice (some ⟨g, off, none⟩) 4 4, .slice d2 4 4] 26)
  have hc0 := (hb0.cell (p := ⟨g, off + j, none⟩) hg).trans hcell
  have HD3 := Lib.hid (hd.below hb0)
  have HW3 := Lib.hid (HW2.out.below hb0)
  have HB3 := Lib.hid (HB2.out.then hb0)
  clear b2 hd hb0 hcell
  go_wp2_with fail
  generalize w2.alloc (.cells #[.slice (some ⟨g, off, none⟩) 4 4, .slice d2 4 4] 26) = w3 at *
  obtain ⟨hx0, hx1⟩ := hbx
  have hI3 : ((j : Nat) : Int) < 4 := by omega
  have hn3 := World.block_lt_of_cell? _ _ hx0
  have hg3 := World.block_lt_of_cell? _ _ hc0
  have HC := Lib.hid (fun W hW => newD_held (n := w2.heap.size) HW3.out HD3.out hj hn3 hg3 W hW)
  have hS : w3.drew.cell? ⟨w2.heap.size, 0, none⟩ = some (.slice (some ⟨g, off, none⟩) 4 4) ∧ w3.drew.cell? ⟨w2.heap.size, 1, none⟩ = some (.slice d2 4 4) ∧ w3.drew.cell? ⟨g, off + j, none⟩ = some (.string ⟨(dNm j).toArray⟩) ∧ Below w3.heap.size w3 w3.drew := ⟨hx0, hx1, hc0, (Below.refl _ _).drew⟩
  clear hx0 hx1 hc0 hn3 hg3
  refine wp_region_N (fun W => W.cell? ⟨w2.heap.size, 0, none⟩ = some (.slice (some ⟨g, off, none⟩) 4 4) ∧ W.cell? ⟨w2.heap.size, 1, none⟩ = some (.slice d2 4 4) ∧ W.cell? ⟨g, off + j, none⟩ = some (.string ⟨(dNm j).toArray⟩) ∧ Below w3.heap.size w3 W) (fun _ => true) (by kernel_rfl) ?_
  refine wpAnyN_take_at 0 20 (v := ?_) rfl rfl (by kernel_rfl) (by kernel_rfl) (by kernel_rfl) (by kernel_rfl) (by kernel_rfl) (fun _ _ _ h => h) (by rfl) ?_ hS ?_
  rotate_left
  · intro w hSw; (try dsimp only at hSw); obtain ⟨s0, s1, s2, s3⟩ := hSw; go_simp; (try with_reducible rfl)
  simp only [Act.put, List.setIfInBounds_toArray, List.set_cons_zero, List.set_cons_succ]
  refine wpAnyN_take_at 1 21 (v := ?_) rfl rfl (by kernel_rfl) (by kernel_rfl) (by kernel_rfl) (by kernel_rfl) (by kernel_rfl) (fun _ _ _ h => h) (by rfl) ?_ hS ?_
  rotate_left
  · intro w hSw; (try dsimp only at hSw); obtain ⟨s0, s1, s2, s3⟩ := hSw; go_simp; (try with_reducible rfl)
  simp only [Act.put, List.setIfInBounds_toArray, List.set_cons_zero, List.set_cons_succ]
  refine wpAnyN_take_at 2 22 (v := ?_) rfl rfl (by kernel_rfl) (by kernel_rfl) (by kernel_rfl) (by kernel_rfl) (by kernel_rfl) (fun _ _ _ h => h) (by rfl) ?_ hS ?_
  rotate_left
  · intro w hSw; (try dsimp only at hSw); obtain ⟨s0, s1, s2, s3⟩ := hSw; go_simp; (try with_reducible rfl)
  simp only [Act.put, List.setIfInBounds_toArray, List.set_cons_zero, List.set_cons_succ]
  refine wpAnyN_take_at 3 23 (v := ?_) rfl rfl (by kernel_rfl) (by kernel_rfl) (by kernel_rfl) (by kernel_rfl) (by kernel_rfl) (fun _ _ _ h => h) (by rfl) ?_ hS ?_
  rotate_left
  · intro w hSw; (try dsimp only at hSw); obtain ⟨s0, s1, s2, s3⟩ := hSw; go_simp; (try with_reducible rfl)
  simp only [Act.put, List.setIfInBounds_toArray, List.set_cons_zero, List.set_cons_succ]
  refine wpAnyN_take_at 4 24 (v := ?_) rfl rfl (by kernel_rfl) (by kernel_rfl) (by kernel_rfl) (by kernel_rfl) (by kernel_rfl) (fun _ _ _ h => h) (by rfl) ?_ hS ?_
  rotate_left
  · intro w hSw; (try dsimp only at hSw); obtain ⟨s0, s1, s2, s3⟩ := hSw; go_simp; (try with_reducible rfl)
  simp only [Act.put, List.setIfInBounds_toArray, List.set_cons_zero, List.set_cons_succ]
  refine wpAnyN_take_at 5 25 (v := ?_) rfl rfl (by kernel_rfl) (by kernel_rfl) (by kernel_rfl) (by kernel_rfl) (by kernel_rfl) (fun _ _ _ h => h) (by rfl) ?_ hS ?_
  rotate_left
  · intro w hSw; (try dsimp only at hSw); obtain ⟨s0, s1, s2, s3⟩ := hSw; go_simp; (try with_reducible rfl)
  simp only [Act.put, List.setIfInBounds_toArray, List.set_cons_zero, List.set_cons_succ]
  refine wpAnyN_take_at 6 26 (v := .int .i64 ((j : Nat) : Int)) rfl rfl (by kernel_rfl) (by kernel_rfl) (by kernel_rfl) (by kernel_rfl) (by kernel_rfl) (fun _ _ _ h => h) (by rfl) ?_ hS ?_
  · intro w hSw; (try dsimp only at hSw); obtain ⟨s0, s1, s2, s3⟩ := hSw; go_simp; (try rw [hm]); (try with_reducible rfl)
  simp only [Act.put, List.setIfInBounds_toArray, List.set_cons_zero, List.set_cons_succ]
  refine wpAnyN_take_at 7 27 (v := ?_) rfl rfl (by kernel_rfl) (by kernel_rfl) (by kernel_rfl) (by kernel_rfl) (by kernel_rfl) (fun _ _ _ h => h) (by rfl) ?_ hS ?_
  rotate_left
  · intro w hSw; (try dsimp only at hSw); obtain ⟨s0, s1, s2, s3⟩ := hSw; go_simp; (try with_reducible rfl)
  simp only [Act.put, List.setIfInBounds_toArray, List.set_cons_zero, List.set_cons_succ]
  refine wpAnyN_take_at 8 28 (v := ?_) rfl rfl (by kernel_rfl) (by kernel_rfl) (by kernel_rfl) (by kernel_rfl) (by kernel_rfl) (fun _ _ _ h => h) (by rfl) ?_ hS ?_
  rotate_left
  · intro w hSw; (try dsimp only at hSw); obtain ⟨s0, s1, s2, s3⟩ := hSw; go_simp; (try with_reducible rfl)
  simp only [Act.put, List.setIfInBounds_toArray, List.set_cons_zero, List.set_cons_succ]
  refine wpAnyN_one (i := 9) rfl (by kernel_rfl) (fun K hK => ?_)
  go_simp
  refine (HC.out _ hS).mono ?_
  rintro e w5 ⟨b, rfl, hSd, hS5⟩
  refine hK _ _ (fun _ => hS5) ?_
  clear hK hS HC
  have hS := hS5
  refine wpAnyN_take_at 10 19 (v := ?_) rfl rfl (by kernel_rfl) (by kernel_rfl) (by kernel_rfl) (by kernel_rfl) (by kernel_rfl) (fun _ _ _ h => h) (by rfl) ?_ hS ?_
  rotate_left
  · intro w hSw; (try dsimp only at hSw); obtain ⟨s0, s1, s2, s3⟩ := hSw; go_simp; (try with_reducible rfl)
  simp only [Act.put, List.setIfInBounds_toArray, List.set_cons_zero, List.set_cons_succ]
  refine wpAnyN_take_at 11 30 (v := ?_) rfl rfl (by kernel_rfl) (by kernel_rfl) (by kernel_rfl) (by kernel_rfl) (by kernel_rfl) (fun _ _ _ h => h) (by rfl) ?_ hS ?_
  rotate_left
  · intro w hSw; (try dsimp only at hSw); obtain ⟨s0, s1, s2, s3⟩ := hSw; go_simp; (try with_reducible rfl)
  simp only [Act.put, List.setIfInBounds_toArray, List.set_cons_zero, List.set_cons_succ]
  refine wpAnyN_take_at 12 31 (v := ?_) rfl rfl (by kernel_rfl) (by kernel_rfl) (by kernel_rfl) (by kernel_rfl) (by kernel_rfl) (fun _ _ _ h => h) (by rfl) ?_ hS ?_
  rotate_left
  · intro w hSw; (try dsimp only at hSw); obtain ⟨s0, s1, s2, s3⟩ := hSw; go_simp; (try with_reducible rfl)
  simp only [Act.put, List.setIfInBounds_toArray, List.set_cons_zero, List.set_cons_succ]
  refine wpAnyN_take_at 13 6 (v := ?_) rfl rfl (by kernel_rfl) (by kernel_rfl) (by kernel_rfl) (by kernel_rfl) (by kernel_rfl) (fun _ _ _ h => h) (by rfl) ?_ hS ?_
  rotate_left
  · intro w hSw; (try dsimp only at hSw); obtain ⟨s0, s1, s2, s3⟩ := hSw; go_simp; (try with_reducible rfl)
  simp only [Act.put, List.setIfInBounds_toArray, List.set_cons_zero, List.set_cons_succ]
  refine wpAnyN_take_at 14 7 (v := ?_) rfl rfl (by kernel_rfl) (by kernel_rfl) (by kernel_rfl) (by kernel_rfl) (by kernel_rfl) (fun _ _ _ h => h) (by rfl) ?_ hS ?_
  rotate_left
  · intro w hSw; (try dsimp only at hSw); obtain ⟨s0, s1, s2, s3⟩ := hSw; go_simp; (try with_reducible rfl)
  simp only [Act.put, List.setIfInBounds_toArray, List.set_cons_zero, List.set_cons_succ]
  refine wpAnyN_rest 15 [] rfl (by kernel_rfl) (by kernel_rfl) ?_
  have HB5 := Lib.hid (HB3.out.then hS5.2.2.2)
  have HD5 := Lib.hid (HD3.out.below hS5.2.2.2)
  have HW5 := Lib.hid (HW3.out.below hS5.2.2.2)
  have HSb5 := Lib.hid hS5.2.2.2
  obtain ⟨hx0, hx1, _, _⟩ := hS5
  have HSb := Lib.hid hSd
  clear hSd hS hm
  clear hx0 hx1
  have ct := text_any a1 w5 (by omega)
  rw [textB_segs] at ct
  have hTl := textL_len a1.data.toList
  have hVs := veil_size (svD j) a1.data.toList hD
  have hVb := (veil_back (svD j) a1.data.toList).2.1
  have hLen := veil_len (svD j) a1.data.toList
  have hLast := joinL_last (veilLs (svD j) (textL a1.data.toList))
  rw [show joinL (veilLs (svD j) (textL a1.data.toList)) = veilL (svD j) a1.data.toList from rfl] at hLast
  have cv0 := fun w1 (h : SeerD w1 b j) => veilD_any h a1 (by omega)
  generalize veilLs (svD j) (textL a1.data.toList) = Ws at *
  generalize veilL (svD j) a1.data.toList = X at *
  generalize textL a1.data.toList = T at *
  generalize hLs : splitL T = Ls at *
  obtain ⟨xb, hxb⟩ : ∃ xb : ByteArray, xb = ⟨X.toArray⟩ := ⟨_, rfl⟩
  obtain ⟨tb, htb⟩ : ∃ tb : ByteArray, tb = ⟨T.toArray⟩ := ⟨_, rfl⟩
  have hxd : xb.data.toList = X := by rw [hxb]
  have htd : tb.data.toList = T := by rw [htb]
  have hxs : xb.size = X.length := by rw [hxb]; exact str_size X
  have hts : tb.size = T.length := by rw [htb]; exact str_size T
  have fle : decide ((xb.size : Int) ≤ (tb.size : Int) + 1) = true := by
    have := hLen.1
    rw [decide_eq_true_eq]; omega
  have fl : decide ((Ws.length : Int) ≤ (Ls.length : Int)) = true := by
    have := hLen.2
    rw [decide_eq_true_eq]; omega
  have cs1 := fun w1 => split_any xb w1 (by omega)
  rw [hxd, hVb] at cs1
  have cs2 := fun w1 => split_any tb w1 (by omega)
  rw [htd, hLs] at cs2
  rw [← htb] at ct
  have hcases : (xb.toList = [] ∧ xb.toList.isEmpty = true) ∨ (∃ h0 : 0 < xb.size, ¬ xb.toList = [] ∧ xb.toList.isEmpty = false ∧ (1 : Int) ≤ xb.size ∧ (((xb[xb.size - 1]'(Nat.sub_lt h0 Nat.one_pos)).toNat : Int) == 10) = true) := by
    rcases hLast with h | h
    · left
      rw [ByteArray.toList_eq, hxd, h]; exact ⟨rfl, rfl⟩
    · right
      have hne : X ≠ [] := by intro e; rw [e] at h; cases h
      have h0 : 0 < xb.size := by rw [hxs]; exact List.length_pos_iff.2 hne
      refine ⟨h0, toList_ne h0, toList_empty h0, by omega, ?_⟩
      have e : xb[xb.size - 1] = 10 := by
        have e1 : xb.data.toList[xb.size - 1]? = some 10 := by rw [hxd, hxs, ← List.getLast?_eq_getElem?]; exact h
        have e2 : xb.data.toList[xb.size - 1]? = some xb[xb.size - 1] := by
          rw [List.getElem?_eq_getElem (by rw [hxd, ← hxs]; omega)]; rfl
        rw [e2] at e1
        exact Option.some.inj e1
      rw [e]; rfl
  have hxbs : xb.size ≤ 5000 := by omega
  have htbs : tb.size ≤ 5000 := by omega
  have HSb5' := HSb
  have cv := fun w1 (h : SeerD w1 b j) => cv0 w1 h
  rw [← hxb] at cv
  have hxs' := Nat.le_of_eq hxs
  have hWL := hLen.2
  have hWl : Ws.length ≤ 100000 := by
    have h1 := hLen.2
    have h2 : Ls.length ≤ T.length + 1 := by rw [← hLs]; exact split_len T []
    omega
  have hLl : Ls.length ≤ 100000 := by
    have h2 : Ls.length ≤ T.length + 1 := by rw [← hLs]; exact split_len T []
    omega
  clear hTl hVs hVb hLen hLast cv0 hLs hxb htb hxd htd hxs hts hxs'
  go_wp2_with fail
  refine ct.mono ?_
  rintro e w6 ⟨rfl, b6⟩
  have HB6 := Lib.hid (HB5.out.then b6)
  have cv6 := cv w6 (HSb.out.below b6)
  clear b6 ct cv
  go_wp2_with fail
  refine cv6.mono ?_
  rintro e w7 ⟨rfl, b7⟩
  have HB7 := Lib.hid (HB6.out.then b7)
  clear b7 cv6
  rcases hcases with ⟨e0, e1⟩ | ⟨h0, e0, e1, e2, e3⟩
  all_goals
    go_wp2_with fail
    refine (cs1 _).mono ?_
    rintro e w8 ⟨v8, rfl, hown8, b8⟩
    obtain ⟨A8, c8, rfl, _, _, _⟩ := RowOf.own hown8
    have HB8 := Lib.hid (HB7.out.then b8)
    clear b8 hown8
    go_wp2_with fail
    refine (cs2 _).mono ?_
    rintro e w9 ⟨v9, rfl, hown9, b9⟩
    obtain ⟨A9, c9, rfl, _, _, _⟩ := RowOf.own hown9
    have HB9 := Lib.hid (HB8.out.then b9)
    clear b9 hown9
    go_wp2
    go_ret
    exact ⟨ret_bool (by simp), HB9.out⟩

end Go.Proofs.YtneiheifjgffaaaGreatDoor
