/- Texts joined: IoD. -/
import Derived.Test.YtfbaknkmpilllaaGreatDoorRIoC
import Derived.Test.YtfbaknkmpilllaaGreatDoorQAG
namespace Go.Proofs.YtfbaknkmpilllaaGreatDoor
open Go.RowKit
set_option linter.unusedSimpArgs false
set_option linter.unusedVariables false
set_option maxRecDepth 100000
theorem NdAt.below {w w' : World} {v : Value} {nd : List Iln} (h : NdAt w v nd) (hb : Below w.heap.size w w') : NdAt w' v nd := h.keep (KI.of (B := w.heap.size) hb (Nat.le_refl _))
theorem five_below {w w' : World} {b off : Nat} {v0 v1 v2 v3 v4 : Value} (hb : Below w.heap.size w w') (hlt : b < w.heap.size)
    (h : w.cell? ⟨b, off, none⟩ = some v0 ∧ w.cell? ⟨b, off + 1, none⟩ = some v1 ∧ w.cell? ⟨b, off + 2, none⟩ = some v2 ∧ w.cell? ⟨b, off + 3, none⟩ = some v3 ∧ w.cell? ⟨b, off + 4, none⟩ = some v4) :
    w'.cell? ⟨b, off, none⟩ = some v0 ∧ w'.cell? ⟨b, off + 1, none⟩ = some v1 ∧ w'.cell? ⟨b, off + 2, none⟩ = some v2 ∧ w'.cell? ⟨b, off + 3, none⟩ = some v3 ∧ w'.cell? ⟨b, off + 4, none⟩ = some v4 :=
  ⟨(hb.cell (p := ⟨b, off, none⟩) hlt).trans h.1, (hb.cell (p := ⟨b, off + 1, none⟩) hlt).trans h.2.1, (hb.cell (p := ⟨b, off + 2, none⟩) hlt).trans h.2.2.1, (hb.cell (p := ⟨b, off + 3, none⟩) hlt).trans h.2.2.2.1, (hb.cell (p := ⟨b, off + 4, none⟩) hlt).trans h.2.2.2.2⟩
theorem five_box {w : World} {g : Nat} {v0 v1 v2 v3 v4 : Value} {t : TypeId} (h : w.heap[g]? = some (.cells #[v0, v1, v2, v3, v4] t (0, 0))) :
    w.cell? ⟨g, 0, none⟩ = some v0 ∧ w.cell? ⟨g, 1, none⟩ = some v1 ∧ w.cell? ⟨g, 2, none⟩ = some v2 ∧ w.cell? ⟨g, 3, none⟩ = some v3 ∧ w.cell? ⟨g, 4, none⟩ = some v4 :=
  ⟨(cell_of_row w g 0 _ t (0, 0) h).trans rfl, (cell_of_row w g 1 _ t (0, 0) h).trans rfl, (cell_of_row w g 2 _ t (0, 0) h).trans rfl, (cell_of_row w g 3 _ t (0, 0) h).trans rfl, (cell_of_row w g 4 _ t (0, 0) h).trans rfl⟩
set_option maxHeartbeats 8000000 in
theorem inlineNotes_walk (w : World) (h7 : TkW w) (a0 : ByteArray) (w0 : a0.size ≤ maxLen) (a1 : Bool) :
    Calls Tryz.prog 7 #[.string a0, .bool a1] w fun e w' => e = .returned (.bool true) ∧ Below w.heap.size w w' := by
  have CA := Lib.hid (alive15_any w h7)
  have H7 := Lib.hid h7
  unfold maxLen at w0
  clear h7
  by_cases hz : a0.size = 0 ∨ 20 < a0.size
  · have hcase : a0.size = 0 ∨ (0 < a0.size ∧ 20 < a0.size) := by omega
    clear hz
    rcases hcase with h1 | ⟨h1, h2⟩
    · obtain rfl := tlEmpty_of a0 h1
      clear h1 w0
      go_enter Tryz.func7, Tryz.ntmps7
      go_wp2_with fail
      refine CA.out.mono ?_
      rintro e w1 ⟨rfl, b1⟩
      go_wp2
      go_ret
      exact ⟨rfl, b1⟩
    · have e1 := toList_ne h1
      have e2 := toList_empty h1
      go_enter Tryz.func7, Tryz.ntmps7
      go_wp2_with fail
      refine CA.out.mono ?_
      rintro e w1 ⟨rfl, b1⟩
      go_wp2
      go_ret
      exact ⟨rfl, b1⟩
  · have hz0 : a0.size ≤ 20 := by omega
    have hz2 : 0 < a0.size := by omega
    have e1 := toList_ne hz2
    have e2 := toList_empty hz2
    clear hz
    go_enter Tryz.func7, Tryz.ntmps7
    go_wp2_with fail
    refine CA.out.mono ?_
    rintro e w1 ⟨rfl, b1⟩
    have HB1 := Lib.hid b1
    clear b1
    go_wp2_with fail
    clear e1 e2
    go_loop [5] (fun v => TlLowRel a0 v) (fun v => a0.size - (intOf v).toNat)
    case atStart => exact ⟨0, rfl, Nat.zero_le _, by simp⟩
    case round =>
      obtain ⟨k, rfl, hk, hall⟩ := hrel
      by_cases hlt : k < a0.size
      · cases hb : lowB a0[k] with
        | true =>
          have HA := Lib.hid (take_mem a0 k hlt lowB hall hb)
          obtain ⟨g1, g2⟩ := low_yes hb
          clear hb hall
          go_wp2
          all_goals first
            | exact ⟨⟨k + 1, by go_num, by omega, HA.out⟩, by simp only [intOf]; omega⟩
            | (go_round
               case rel => exact ⟨k + 1, by go_num, by omega, HA.out⟩
               case measure => simp [intOf]; omega)
        | false =>
          have g := low_no hb
          clear hb hall
          rcases g with g | g
          · go_wp2
            go_ret
            exact ⟨rfl, HB1.out⟩
          · have g1 : decide ((a0[k].toNat : Int) < 97) = false := by simp; omega
            have g2 : (97 : Int) ≤ a0[k].toNat := by omega
            go_wp2
            go_ret
            exact ⟨rfl, HB1.out⟩
      · obtain rfl : k = a0.size := by omega
        rw [List.take_of_length_le (by rw [size_len']; exact Nat.le_refl _)] at hall
        have hne : a0.data.toList ≠ [] := by intro e; have := size_len' a0; rw [e] at this; simp at this; omega
        have r1 := fun W => run_string_add_sum (P := Tryz.prog) W (⟨#[91, 94]⟩ : ByteArray) a0 (by show 2 + a0.size ≤ _; omega)
        have r2 := fun W => run_string_add_sum (P := Tryz.prog) W ((⟨#[91, 94]⟩ : ByteArray) ++ a0) (⟨#[93]⟩ : ByteArray) (by rw [ByteArray.size_append]; show 2 + a0.size + 1 ≤ _; omega)
        have r3 := fun W => run_string_add_sum (P := Tryz.prog) W (⟨#[91, 35]⟩ : ByteArray) a0 (by show 2 + a0.size ≤ _; omega)
        have r4 := fun W => run_string_add_sum (P := Tryz.prog) W ((⟨#[91, 35]⟩ : ByteArray) ++ a0) (⟨#[93]⟩ : ByteArray) (by rw [ByteArray.size_append]; show 2 + a0.size + 1 ≤ _; omega)
        have hT1 : (((⟨#[91, 94]⟩ : ByteArray) ++ a0) ++ (⟨#[93]⟩ : ByteArray)).data.toList = 91 :: (94 :: a0.data.toList ++ [93]) := by simp
        have hT2 : (((⟨#[91, 35]⟩ : ByteArray) ++ a0) ++ (⟨#[93]⟩ : ByteArray)).data.toList = 91 :: (35 :: a0.data.toList ++ [93]) := by simp
        have hS1 : (((⟨#[91, 94]⟩ : ByteArray) ++ a0) ++ (⟨#[93]⟩ : ByteArray)).size ≤ 1000 := by rw [ByteArray.size_append, ByteArray.size_append]; show 2 + a0.size + 1 ≤ _; omega
        have hS2 : (((⟨#[91, 35]⟩ : ByteArray) ++ a0) ++ (⟨#[93]⟩ : ByteArray)).size ≤ 1000 := by rw [ByteArray.size_append, ByteArray.size_append]; show 2 + a0.size + 1 ≤ _; omega
        generalize ((⟨#[91, 94]⟩ : ByteArray) ++ a0) ++ (⟨#[93]⟩ : ByteArray) = T1 at *
        generalize (⟨#[91, 94]⟩ : ByteArray) ++ a0 = P1 at *
        generalize ((⟨#[91, 35]⟩ : ByteArray) ++ a0) ++ (⟨#[93]⟩ : ByteArray) = T2 at *
        generalize (⟨#[91, 35]⟩ : ByteArray) ++ a0 = P2 at *
        have hb2 := HB1.out.alloc HB1.out.size (.cells #[.slice none 0 0, .map none] 40)
        have hti : TableIs (w1.alloc (.cells #[.slice none 0 0, .map none] 40)) w.heap.size w1.heap.size (.slice none 0 0) (.map none) [] := TableIs.new (heap_alloc_new _ _) HB1.out.size
        have HT := Lib.hid (And.intro hT1 (And.intro hT2 (And.intro hall hne)))
        have HTI := Lib.hid hti
        have HB2 := Lib.hid hb2
        clear hT1 hT2 hall hne hb2 hti
        cases a1 with
        | false =>
          go_wp2_with fail
          have hne1 : ¬ T1 = T2 ∨ True := Or.inr trivial
          have ht2 : TbAt (w1.alloc (.cells #[.slice none 0 0, .map none] 40)) (.pointer (some ⟨w1.heap.size, 0, none⟩)) [] := Or.inr ⟨_, _, _, _, rfl, HTI.out⟩
          have HT2 := Lib.hid ht2
          clear ht2
          generalize w1.alloc (.cells #[.slice none 0 0, .map none] 40) = w2 at *
          refine (parse_raw HT2.out (H7.out.below HB2.out) (by simp) hS1).mono ?_
          rintro e w3 ⟨⟨v1, rfl, hv1⟩, b3⟩
          rw [HT.out.1, rawI, notes_none rawE a0.data.toList HT.out.2.2.1] at hv1
          have HV1 := Lib.hid hv1
          have HB3 := Lib.hid (HB2.out.then b3)
          have HT3 := Lib.hid (HT2.out.below b3)
          clear b3 hv1
          go_wp2_with fail
          refine (parse_raw HT3.out (H7.out.below HB3.out) (by simp) hS2).mono ?_
          rintro e w4 ⟨⟨v2, rfl, hv2⟩, b4⟩
          rw [HT.out.2.1, rawI, cross_plain rawE [] a0.data.toList HT.out.2.2.2 HT.out.2.2.1] at hv2
          have hv1 := HV1.out.below b4
          have HB4 := Lib.hid (HB3.out.then b4)
          obtain ⟨bb1, o1, k1, rfl, hl1, C1⟩ := hv1.one
          obtain ⟨bb2, o2, k2, rfl, hl2, C2⟩ := hv2.one
          simp only [wordsI, ← HT.out.1, Lib.mk_data] at C1 C2
          have HC := Lib.hid (And.intro C1 C2)
          have HL := Lib.hid (And.intro hl1 hl2)
          clear hv1 hv2 b4 C1 C2 hl1 hl2 HV1
          go_wp2_with fail
          have hBb := (Below.refl w4.heap.size w4).alloc (Nat.le_refl _) (.cells #[.int .i64 1, .int .i64 0, .string T1, .string ⟨#[]⟩, .string ⟨#[]⟩] 30)
          obtain ⟨c0, c1, c2, c3, c4⟩ := five_below hBb HL.out.1 HC.out.1
          obtain ⟨d0, d1, d2, d3, d4⟩ := five_below hBb HL.out.2 HC.out.2
          obtain ⟨x0, x1, x2, x3, x4⟩ := five_box (heap_alloc_new w4 (.cells #[.int .i64 1, .int .i64 0, .string T1, .string ⟨#[]⟩, .string ⟨#[]⟩] 30))
          have HB5 := Lib.hid (HB4.out.alloc HB4.out.size (.cells #[.int .i64 1, .int .i64 0, .string T1, .string ⟨#[]⟩, .string ⟨#[]⟩] 30))
          clear hBb
          generalize w4.alloc (.cells #[.int .i64 1, .int .i64 0, .string T1, .string ⟨#[]⟩, .string ⟨#[]⟩] 30) = w5 at *
          go_quiet (fail)
          go_wp2
          go_ret
          exact ⟨ret_bool (by simp), below_drewN' HB5.out nq⟩
        | true =>
          have hx : a0.data.toList.length ≤ 20 := by rw [size_len']; exact hz0
          have ca := add_new HB2.out.size HTI.out ⟨a0.data.toList, [], [], [120], true⟩ (by show a0.data.toList.length ≤ maxLen; unfold maxLen; omega) rfl (by simp)
          unfold dfV' at ca
          simp only [Lib.mk_data] at ca
          have CD := Lib.hid ca
          clear ca
          go_wp2_with fail
          refine CD.out.mono ?_
          rintro e w2' ⟨rfl, ⟨v', m', hti', _⟩, _, bB⟩
          have ht2 : TbAt w2' (.pointer (some ⟨w1.heap.size, 0, none⟩)) [⟨a0.data.toList, [], [], [120], true⟩] := Or.inr ⟨_, _, _, _, rfl, hti'⟩
          have HT2 := Lib.hid ht2
          have HB2' := Lib.hid (HB2.out.trans bB)
          clear ht2 hti' bB CD HTI
          go_wp2_with fail
          refine (parse_raw HT2.out (H7.out.below HB2'.out) (by simp) hS1).mono ?_
          rintro e w3 ⟨⟨v1, rfl, hv1⟩, b3⟩
          rw [HT.out.1, rawI, notes_plain rawE a0.data.toList [120] HT.out.2.2.2 hx HT.out.2.2.1] at hv1
          have HV1 := Lib.hid hv1
          have HB3 := Lib.hid (HB2'.out.then b3)
          have HT3 := Lib.hid (HT2.out.below b3)
          clear b3 hv1
          go_wp2_with fail
          refine (parse_raw HT3.out (H7.out.below HB3.out) (by simp) hS2).mono ?_
          rintro e w4 ⟨⟨v2, rfl, hv2⟩, b4⟩
          rw [HT.out.2.1, rawI, cross_plain rawE _ a0.data.toList HT.out.2.2.2 HT.out.2.2.1] at hv2
          have hv1 := HV1.out.below b4
          have HB4 := Lib.hid (HB3.out.then b4)
          obtain ⟨bb1, o1, k1, rfl, hl1, C1⟩ := hv1.one
          obtain ⟨bb2, o2, k2, rfl, hl2, C2⟩ := hv2.one
          simp only [Lib.mk_data] at C1 C2
          have HC := Lib.hid (And.intro C1 C2)
          have HL := Lib.hid (And.intro hl1 hl2)
          clear hv1 hv2 b4 C1 C2 hl1 hl2 HV1
          go_wp2_with fail
          have hBb := (Below.refl w4.heap.size w4).alloc (Nat.le_refl _) (.cells #[.int .i64 10, .int .i64 0, .string a0, .string ⟨#[]⟩, .string ⟨#[]⟩] 30)
          obtain ⟨c0, c1, c2, c3, c4⟩ := five_below hBb HL.out.1 HC.out.1
          obtain ⟨d0, d1, d2, d3, d4⟩ := five_below hBb HL.out.2 HC.out.2
          obtain ⟨x0, x1, x2, x3, x4⟩ := five_box (heap_alloc_new w4 (.cells #[.int .i64 10, .int .i64 0, .string a0, .string ⟨#[]⟩, .string ⟨#[]⟩] 30))
          have HB5 := Lib.hid (HB4.out.alloc HB4.out.size (.cells #[.int .i64 10, .int .i64 0, .string a0, .string ⟨#[]⟩, .string ⟨#[]⟩] 30))
          clear hBb
          generalize w4.alloc (.cells #[.int .i64 10, .int .i64 0, .string a0, .string ⟨#[]⟩, .string ⟨#[]⟩] 30) = w5 at *
          go_quiet (fail)
          go_wp2
          go_ret
          exact ⟨ret_bool (by simp), below_drewN' HB5.out nq⟩
end Go.Proofs.YtfbaknkmpilllaaGreatDoor
