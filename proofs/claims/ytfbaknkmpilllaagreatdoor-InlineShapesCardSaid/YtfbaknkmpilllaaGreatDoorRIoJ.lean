/- Texts joined: IoJ. -/
import Derived.Test.YtfbaknkmpilllaaGreatDoorRIoT
import Derived.Test.YtfbaknkmpilllaaGreatDoorQAH
namespace Go.Proofs.YtfbaknkmpilllaaGreatDoor
open Go.RowKit
set_option linter.unusedSimpArgs false
set_option linter.unusedVariables false
set_option maxRecDepth 100000
theorem nest_at : ∀ (X : List Iln) (d : Int), nestOk d X = true → (∀ (h : 0 < X.length), X[0].dp ≤ d) ∧ ∀ i (h : i + 1 < X.length), X[i + 1].dp ≤ nxtI X[i]
  | [], d, _ => ⟨fun h => by simp at h, fun i h => by simp at h⟩
  | x :: X, d, h => by
    rw [nestOk, Bool.and_eq_true] at h
    have ih := nest_at X (nxtI x) h.2
    refine ⟨fun _ => by simpa using h.1, fun i hi => ?_⟩
    cases i with
    | zero => exact ih.1 (by simpa using hi)
    | succ i => exact ih.2 i (by simpa using hi)
theorem nxt_cases (x : Iln) (y : Int) (h : y ≤ nxtI x) : y ≤ x.dp ∨ (y ≤ x.dp + 1 ∧ (x.kd = 3 ∨ x.kd = 4 ∨ x.kd = 5 ∨ x.kd = 12)) := by
  unfold nxtI contK at h
  split at h
  · next hc => exact .inr ⟨h, by simpa [or_assoc] using hc⟩
  · exact .inl h
theorem merged_at {X : List Iln} (h : Merged X) {i : Nat} (hi : i + 1 < X.length) : ¬ (X[i].kd = 1 ∧ X[i + 1].kd = 1 ∧ X[i].dp = X[i + 1].dp) := by
  have e : X = X.take i ++ X[i] :: X[i + 1] :: X.drop (i + 2) := by
    conv => lhs; rw [← List.take_append_drop i X]
    rw [List.drop_eq_getElem_cons (by omega : i < X.length), List.drop_eq_getElem_cons hi]
  exact h.2 _ _ _ _ e
def shapeRel (X : List Iln) (w2 : World) (i : Value) (wr : World) : Prop := ∃ j : Nat, i = .int .i64 j ∧ j ≤ X.length ∧ Below w2.heap.size w2 wr
set_option maxHeartbeats 16000000 in
theorem inlineShapes_walk (w : World) (h7 : TkW w) (a0 : ByteArray) (w0 : a0.size ≤ maxLen) (A1 : Option Addr) (c1 : Nat) (z1 : List Dfn) (r1 : DefsAt w A1 c1 z1) (w1 : DfnsWf z1) :
    Calls Tryz.prog 3 #[.string a0, .slice A1 z1.length c1] w fun e w' => e = .returned (.bool true) ∧ Below w.heap.size w w' := by
  have CA := Lib.hid (alive15_any w h7)
  have H7 := Lib.hid h7
  have hwf := w1
  clear w1
  have hle1 : z1.length ≤ c1 := r1.le
  have hcap1 := r1.cap
  unfold maxLen at hcap1 w0
  clear h7
  by_cases hz : 200 < a0.size ∨ 20 < z1.length
  · have hcase : 200 < a0.size ∨ (a0.size ≤ 200 ∧ 20 < z1.length) := by omega
    clear hz
    rcases hcase with h1 | ⟨h1, h2⟩
    · go_enter Tryz.func3, Tryz.ntmps3
      go_wp2_with fail
      refine CA.out.mono ?_
      rintro e w1 ⟨rfl, b1⟩
      go_wp2
      go_ret
      exact ⟨rfl, b1⟩
    · go_enter Tryz.func3, Tryz.ntmps3
      go_wp2_with fail
      refine CA.out.mono ?_
      rintro e w1 ⟨rfl, b1⟩
      go_wp2
      go_ret
      exact ⟨rfl, b1⟩
  · have hz0 : a0.size ≤ 200 := by omega
    have hz1 : z1.length ≤ 20 := by omega
    clear hz
    go_enter Tryz.func3, Tryz.ntmps3
    go_wp2_with fail
    refine CA.out.mono ?_
    rintro e w1 ⟨rfl, b1⟩
    have HB1 := Lib.hid b1
    have CT := Lib.hid (table15_any A1 c1 z1 w1 (EltsAt.below r1 b1) hwf hz1)
    clear b1 r1 hwf
    go_wp2_with fail
    refine CT.out.mono ?_
    rintro e w2 ⟨⟨tbv, iv, D, rfl, ht, hD⟩, b2⟩
    have HT := Lib.hid ht
    have HB2 := Lib.hid (HB1.out.then b2)
    clear ht b2
    go_wp2_with fail
    refine (parse_raw HT.out (H7.out.below HB2.out) (by omega) (by omega)).mono ?_
    rintro e w3 ⟨⟨v, rfl, hv⟩, b3⟩
    have hS := shapes_plain D a0.data.toList (by rw [size_len']; omega)
    rw [size_len'] at hS
    have hxl := hv.len_le
    unfold maxLen at hxl
    generalize rawI D a0.data.toList = X at *
    obtain ⟨A2, k2, rfl, hG, _⟩ := hv
    have HB3 := Lib.hid (HB2.out.then b3)
    have HS := Lib.hid hS
    clear b3 hS
    go_wp2_with fail
    go_loopw [34] (fun i wr => shapeRel X w3 i wr) (fun i _ => X.length - (intOf i).toNat)
    case atStart => exact ⟨0, rfl, Nat.zero_le _, Below.refl _ _⟩
    case round =>
      obtain ⟨j, rfl, hj, hbw⟩ := hrel
      by_cases hp : j < X.length
      · obtain ⟨bX, oX, e, hbX, d0, d1, d2, d3, d4⟩ := InlsAt.cells5 (EltsAt.below hG hbw) hp
        subst e
        obtain ⟨hk1, hk2, hd1, hd2⟩ := HS.out.1 X[j] (List.getElem_mem hp)
        have htx := (HS.out.2.2.1 X[j] (List.getElem_mem hp))
        have hBx := (Below.refl wr.heap.size wr).alloc (Nat.le_refl _) (.cells #[.int .i64 X[j].kd, .int .i64 X[j].dp, .string ⟨X[j].txt.toArray⟩, .string ⟨X[j].url.toArray⟩, .string ⟨X[j].ttl.toArray⟩] 30)
        have hbox := five_box (heap_alloc_new wr (.cells #[.int .i64 X[j].kd, .int .i64 X[j].dp, .string ⟨X[j].txt.toArray⟩, .string ⟨X[j].url.toArray⟩, .string ⟨X[j].ttl.toArray⟩] 30))
        have HW2 := Lib.hid (hbw.alloc hbw.size (.cells #[.int .i64 X[j].kd, .int .i64 X[j].dp, .string ⟨X[j].txt.toArray⟩, .string ⟨X[j].url.toArray⟩, .string ⟨X[j].ttl.toArray⟩] 30))
        have HP := Lib.hid hp
        have t1 : decide (X[j].dp < 0) = false := by simp; omega
        have t2 : decide (X[j].kd < 1) = false := by simp; omega
        have t3 : decide (12 < X[j].kd) = false := by simp; omega
        have t4 : ((X[j].kd == 1) = true ∧ X[j].txt.isEmpty = false) ∨ (X[j].kd == 1) = false := by
          by_cases e : X[j].kd = 1
          · exact .inl ⟨by simpa using e, List.isEmpty_eq_false_iff.2 (htx e).1⟩
          · exact .inr (by simpa using e)
        clear htx
        by_cases hj0 : j = 0
        · have h0 := (nest_at X 0 HS.out.2.1).1 (by omega)
          have t5 : decide (0 < X[j].dp) = false := by
            have e : X[j].dp = (X[0]'(by omega)).dp := by congr 1; congr 1
            rw [e]; simp; omega
          have t0 : ((j : Int) == 0) = true := by simp; omega
          clear hk1 hk2 hd1 hd2 hbw h0 hj0
          generalize X[j] = x at *
          obtain ⟨kd, dp, tx, ur, ti⟩ := x
          dsimp only at *
          obtain ⟨x0, x1, x2, x3, x4⟩ := hbox
          rcases t4 with ⟨t4, t6⟩ | t4
          · go_wp2
            all_goals first
              | exact ⟨⟨j + 1, by go_num, by have := HP.out; omega, HW2.out⟩, by have := HP.out; simp only [intOf]; omega⟩
              | (go_roundw
                 case rel => exact ⟨j + 1, by go_num, by have := HP.out; omega, HW2.out⟩
                 case measure => have := HP.out; simp [intOf]; omega)
          · go_wp2
            all_goals first
              | exact ⟨⟨j + 1, by go_num, by have := HP.out; omega, HW2.out⟩, by have := HP.out; simp only [intOf]; omega⟩
              | (go_roundw
                 case rel => exact ⟨j + 1, by go_num, by have := HP.out; omega, HW2.out⟩
                 case measure => have := HP.out; simp [intOf]; omega)
        · obtain ⟨q, rfl⟩ : ∃ q, j = q + 1 := ⟨j - 1, by omega⟩
          clear hj0
          have hq : q < X.length := by omega
          obtain ⟨bX', oX', e', -, f0, f1, f2, f3, f4⟩ := InlsAt.cells5 (EltsAt.below hG hbw) hq
          have e'' := Option.some.inj e'
          injection e'' with q1 q2
          subst q1 q2
          have hn := nxt_cases X[q] _ ((nest_at X 0 HS.out.2.1).2 q hp)
          have hm := merged_at HS.out.2.2 hp
          have hdq := (HS.out.1 X[q] (List.getElem_mem hq)).2.2
          obtain ⟨y0, y1, y2, y3, y4⟩ := five_below hBx hbX ⟨f0, f1, f2, f3, f4⟩
          have hcase : ((X[q].dp < X[q + 1].dp ∧ X[q + 1].dp ≤ X[q].dp + 1 ∧ (X[q].kd == 1) = false) ∧ (X[q].kd = 3 ∨ X[q].kd = 4 ∨ X[q].kd = 5 ∨ X[q].kd = 12)) ∨
              (X[q + 1].dp ≤ X[q].dp ∧ ((X[q + 1].kd == 1) = false ∨ ((X[q + 1].kd == 1) = true ∧ (X[q].kd == 1) = false) ∨ ((X[q + 1].kd == 1) = true ∧ (X[q].kd == 1) = true ∧ (X[q + 1].dp == X[q].dp) = false))) := by
            by_cases hlt : X[q].dp < X[q + 1].dp
            · refine .inl ⟨⟨hlt, ?_, ?_⟩, ?_⟩
              · omega
              · rcases hn with h | ⟨_, h⟩
                · omega
                · simp; omega
              · rcases hn with h | ⟨_, h⟩
                · omega
                · exact h
            · refine .inr ⟨by omega, ?_⟩
              by_cases h1 : X[q + 1].kd = 1
              · by_cases h2 : X[q].kd = 1
                · refine .inr (.inr ⟨by simpa using h1, by simpa using h2, ?_⟩)
                  simp
                  intro e
                  exact hm ⟨h2, h1, e.symm⟩
                · exact .inr (.inl ⟨by simpa using h1, by simpa using h2⟩)
              · exact .inl (by simpa using h1)
          have hqi : ((q + 1 : Nat) : Int) - 1 = (q : Int) := by omega
          have hq0 : (((q + 1 : Nat) : Int) == 0) = false := by simp; omega
          have hbX2 : bX < (wr.alloc (.cells #[.int .i64 X[q + 1].kd, .int .i64 X[q + 1].dp, .string ⟨X[q + 1].txt.toArray⟩, .string ⟨X[q + 1].url.toArray⟩, .string ⟨X[q + 1].ttl.toArray⟩] 30)).heap.size := by simp; omega
          have hgs : (wr.alloc (.cells #[.int .i64 X[q + 1].kd, .int .i64 X[q + 1].dp, .string ⟨X[q + 1].txt.toArray⟩, .string ⟨X[q + 1].url.toArray⟩, .string ⟨X[q + 1].ttl.toArray⟩] 30)).heap.size = wr.heap.size + 1 := by simp
          have hB3x : Below w3.heap.size w3 ((wr.alloc (.cells #[.int .i64 X[q + 1].kd, .int .i64 X[q + 1].dp, .string ⟨X[q + 1].txt.toArray⟩, .string ⟨X[q + 1].url.toArray⟩, .string ⟨X[q + 1].ttl.toArray⟩] 30)).alloc (.cells #[.int .i64 X[q].kd, .int .i64 X[q].dp, .string ⟨X[q].txt.toArray⟩, .string ⟨X[q].url.toArray⟩, .string ⟨X[q].ttl.toArray⟩] 30)) := HW2.out.alloc HW2.out.size _
          have HW3 := Lib.hid hB3x
          have hbox2 := five_box (heap_alloc_new (wr.alloc (.cells #[.int .i64 X[q + 1].kd, .int .i64 X[q + 1].dp, .string ⟨X[q + 1].txt.toArray⟩, .string ⟨X[q + 1].url.toArray⟩, .string ⟨X[q + 1].ttl.toArray⟩] 30)) (.cells #[.int .i64 X[q].kd, .int .i64 X[q].dp, .string ⟨X[q].txt.toArray⟩, .string ⟨X[q].url.toArray⟩, .string ⟨X[q].ttl.toArray⟩] 30))
          have hBy := (Below.refl _ (wr.alloc (.cells #[.int .i64 X[q + 1].kd, .int .i64 X[q + 1].dp, .string ⟨X[q + 1].txt.toArray⟩, .string ⟨X[q + 1].url.toArray⟩, .string ⟨X[q + 1].ttl.toArray⟩] 30))).alloc (Nat.le_refl _) (.cells #[.int .i64 X[q].kd, .int .i64 X[q].dp, .string ⟨X[q].txt.toArray⟩, .string ⟨X[q].url.toArray⟩, .string ⟨X[q].ttl.toArray⟩] 30)
          obtain ⟨z0', z1', z2', z3', z4'⟩ := five_below hBy (by rw [hgs]; omega) hbox
          rw [hgs] at hbox2
          have HC := Lib.hid (And.intro hbox2 hcase)
          have hdq' : 0 ≤ X[q].dp ∧ X[q].dp ≤ 1000 := by omega
          clear hk1 hk2 hd1 hd2 hbw e' hn hm hdq hBx hBy f0 f1 f2 f3 f4 hB3x hbox2 hcase
          obtain ⟨x0, x1, x2, x3, x4⟩ := hbox
          generalize X[q + 1] = x at *
          generalize X[q] = y at *
          obtain ⟨kd, dp, tx, ur, ti⟩ := x
          obtain ⟨kd', dp', tx', ur', ti'⟩ := y
          dsimp only at *
          obtain ⟨b0, b1, b2, b3, b4⟩ := HC.out.1
          have hcs := HC.out.2
          have hwp : IntKind.i64.wrap (dp' + 1) = dp' + 1 := IntWalk.i64_in _ (by omega)
          clear HC
          generalize hi : q + 1 = i at *
          rcases t4 with ⟨t4, t6⟩ | t4
          · rcases hcs with ⟨⟨g1, g2, g3⟩, rfl | rfl | rfl | rfl⟩ | ⟨g1, g | ⟨g, g'⟩ | ⟨g, g', g''⟩⟩
            · have s1 : decide (dp' + 1 < dp) = false := by simp; omega
              have s2 : decide (dp' < dp) = true := by simp; omega
              clear g1 g2 g3
              go_wp2
              all_goals first
                | exact ⟨⟨i + 1, by go_num, by have := HP.out; omega, HW3.out⟩, by have := HP.out; simp only [intOf]; omega⟩
                | (go_roundw
                   case rel => exact ⟨i + 1, by go_num, by have := HP.out; omega, HW3.out⟩
                   case measure => have := HP.out; simp [intOf]; omega)
            · have s1 : decide (dp' + 1 < dp) = false := by simp; omega
              have s2 : decide (dp' < dp) = true := by simp; omega
              clear g1 g2 g3
              go_wp2
              all_goals first
                | exact ⟨⟨i + 1, by go_num, by have := HP.out; omega, HW3.out⟩, by have := HP.out; simp only [intOf]; omega⟩
                | (go_roundw
                   case rel => exact ⟨i + 1, by go_num, by have := HP.out; omega, HW3.out⟩
                   case measure => have := HP.out; simp [intOf]; omega)
            · have s1 : decide (dp' + 1 < dp) = false := by simp; omega
              have s2 : decide (dp' < dp) = true := by simp; omega
              clear g1 g2 g3
              go_wp2
              all_goals first
                | exact ⟨⟨i + 1, by go_num, by have := HP.out; omega, HW3.out⟩, by have := HP.out; simp only [intOf]; omega⟩
                | (go_roundw
                   case rel => exact ⟨i + 1, by go_num, by have := HP.out; omega, HW3.out⟩
                   case measure => have := HP.out; simp [intOf]; omega)
            · have s1 : decide (dp' + 1 < dp) = false := by simp; omega
              have s2 : decide (dp' < dp) = true := by simp; omega
              clear g1 g2 g3
              go_wp2
              all_goals first
                | exact ⟨⟨i + 1, by go_num, by have := HP.out; omega, HW3.out⟩, by have := HP.out; simp only [intOf]; omega⟩
                | (go_roundw
                   case rel => exact ⟨i + 1, by go_num, by have := HP.out; omega, HW3.out⟩
                   case measure => have := HP.out; simp [intOf]; omega)
            · rw [t4] at g; cases g
            · have s1 : decide (dp' + 1 < dp) = false := by simp; omega
              have s2 : decide (dp' < dp) = false := by simp; omega
              clear g1
              go_wp2
              all_goals first
                | exact ⟨⟨i + 1, by go_num, by have := HP.out; omega, HW3.out⟩, by have := HP.out; simp only [intOf]; omega⟩
                | (go_roundw
                   case rel => exact ⟨i + 1, by go_num, by have := HP.out; omega, HW3.out⟩
                   case measure => have := HP.out; simp [intOf]; omega)
            · have s1 : decide (dp' + 1 < dp) = false := by simp; omega
              have s2 : decide (dp' < dp) = false := by simp; omega
              clear g1
              go_wp2
              all_goals first
                | exact ⟨⟨i + 1, by go_num, by have := HP.out; omega, HW3.out⟩, by have := HP.out; simp only [intOf]; omega⟩
                | (go_roundw
                   case rel => exact ⟨i + 1, by go_num, by have := HP.out; omega, HW3.out⟩
                   case measure => have := HP.out; simp [intOf]; omega)
          · rcases hcs with ⟨⟨g1, g2, g3⟩, rfl | rfl | rfl | rfl⟩ | ⟨g1, g | ⟨g, g'⟩ | ⟨g, g', g''⟩⟩
            · have s1 : decide (dp' + 1 < dp) = false := by simp; omega
              have s2 : decide (dp' < dp) = true := by simp; omega
              clear g1 g2 g3
              go_wp2
              all_goals first
                | exact ⟨⟨i + 1, by go_num, by have := HP.out; omega, HW3.out⟩, by have := HP.out; simp only [intOf]; omega⟩
                | (go_roundw
                   case rel => exact ⟨i + 1, by go_num, by have := HP.out; omega, HW3.out⟩
                   case measure => have := HP.out; simp [intOf]; omega)
            · have s1 : decide (dp' + 1 < dp) = false := by simp; omega
              have s2 : decide (dp' < dp) = true := by simp; omega
              clear g1 g2 g3
              go_wp2
              all_goals first
                | exact ⟨⟨i + 1, by go_num, by have := HP.out; omega, HW3.out⟩, by have := HP.out; simp only [intOf]; omega⟩
                | (go_roundw
                   case rel => exact ⟨i + 1, by go_num, by have := HP.out; omega, HW3.out⟩
                   case measure => have := HP.out; simp [intOf]; omega)
            · have s1 : decide (dp' + 1 < dp) = false := by simp; omega
              have s2 : decide (dp' < dp) = true := by simp; omega
              clear g1 g2 g3
              go_wp2
              all_goals first
                | exact ⟨⟨i + 1, by go_num, by have := HP.out; omega, HW3.out⟩, by have := HP.out; simp only [intOf]; omega⟩
                | (go_roundw
                   case rel => exact ⟨i + 1, by go_num, by have := HP.out; omega, HW3.out⟩
                   case measure => have := HP.out; simp [intOf]; omega)
            · have s1 : decide (dp' + 1 < dp) = false := by simp; omega
              have s2 : decide (dp' < dp) = true := by simp; omega
              clear g1 g2 g3
              go_wp2
              all_goals first
                | exact ⟨⟨i + 1, by go_num, by have := HP.out; omega, HW3.out⟩, by have := HP.out; simp only [intOf]; omega⟩
                | (go_roundw
                   case rel => exact ⟨i + 1, by go_num, by have := HP.out; omega, HW3.out⟩
                   case measure => have := HP.out; simp [intOf]; omega)
            · have s1 : decide (dp' + 1 < dp) = false := by simp; omega
              have s2 : decide (dp' < dp) = false := by simp; omega
              clear g1
              go_wp2
              all_goals first
                | exact ⟨⟨i + 1, by go_num, by have := HP.out; omega, HW3.out⟩, by have := HP.out; simp only [intOf]; omega⟩
                | (go_roundw
                   case rel => exact ⟨i + 1, by go_num, by have := HP.out; omega, HW3.out⟩
                   case measure => have := HP.out; simp [intOf]; omega)
            · rw [t4] at g; cases g
            · rw [t4] at g; cases g
      · obtain rfl : j = X.length := by omega
        have HW := Lib.hid (HB3.out.trans (hbw.mono HB3.out.size))
        clear hbw hG
        go_wp2
        go_ret
        exact ⟨rfl, HW.out⟩
end Go.Proofs.YtfbaknkmpilllaaGreatDoor
