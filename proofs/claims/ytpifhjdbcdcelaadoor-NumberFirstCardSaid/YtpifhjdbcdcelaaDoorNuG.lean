/-
  The laws of the layer number: alive.
-/
import Derived.Test.YtpifhjdbcdcelaaDoorNuF
import Derived.Test.YtpifhjdbcdcelaaDoorTexts
namespace Go.Proofs.YtpifhjdbcdcelaaDoor
open Go.RowKit Go.Maps
set_option linter.unusedSimpArgs false
set_option linter.unusedVariables false
set_option maxRecDepth 100000

theorem elts_lit {α : Type} {c : α → List Value} {s : Nat} (hs : ∀ x, (c x).length = s) (w : World) (t : TypeId) (X : List α) (hm : X.length ≤ maxLen) : EltsAt (w.alloc (.cells (flt c X).toArray t)) c s (some ⟨w.heap.size, 0, none⟩) X.length X := by
  refine ⟨Nat.le_refl _, hm, Or.inr ⟨w.heap.size, 0, rfl, by rw [alloc_size]; omega, fun k hk j u hu => ?_⟩⟩
  rw [Nat.zero_add, cell_of_row _ _ _ _ t (0, 0) (heap_alloc_new w _)]
  have := flt_get hs X k hk j u hu
  simpa using this
def alX : List Hdg := [⟨1, ⟨#[65]⟩⟩, ⟨3, ⟨#[65]⟩⟩]
theorem al_slug : slugL [65] = [97] := by decide +kernel
theorem al_n1 : slNext [] [65] = [97] := by
  unfold slNext
  rw [if_neg (by simp), al_slug]
theorem al_n2 : slNext [[97]] [65] = [97, 45, 50] := by
  have := slNext_many [65] 1 (by omega)
  rw [al_slug] at this
  rw [show ([[97]] : List (List UInt8)) = slMany [97] 1 from rfl, this, if_neg (by omega)]
  unfold slNum
  rw [Lib.decDigits_one (by omega)]
  rfl
theorem al_num : allN [1, 3] = [[49], [49, 46, 49]] := by decide +kernel
theorem al_all : allN [1, 2, 2, 1, 3] = [[49], [49, 46, 49], [49, 46, 50], [50], [50, 46, 49]] := by decide +kernel
theorem al_sec : secL alX = [⟨1, [49], [97], [65]⟩, ⟨3, [49, 46, 49], [97, 45, 50], [65]⟩] := by
  have e0 : secOne alX 0 = ⟨1, [49], [97], [65]⟩ := by
    rw [secOne_at alX 0 (by decide) (by rw [show alX.map Hdg.lv = [1, 3] from rfl, al_num]; decide)]
    simp only [show alX.map Hdg.lv = [1, 3] from rfl, al_num]
    rw [show ancL ((alX.take 0).map hdT) = [] from rfl, show hdT alX[0] = [65] from rfl, al_n1]
    rfl
  have e1 : secOne alX 1 = ⟨3, [49, 46, 49], [97, 45, 50], [65]⟩ := by
    rw [secOne_at alX 1 (by decide) (by rw [show alX.map Hdg.lv = [1, 3] from rfl, al_num]; decide)]
    simp only [show alX.map Hdg.lv = [1, 3] from rfl, al_num]
    rw [show ancL ((alX.take 1).map hdT) = [slNext [] [65]] from rfl, al_n1, show hdT alX[1] = [65] from rfl, al_n2]
    rfl
  show [secOne alX 0, secOne alX 1] = _
  rw [e0, e1]

set_option maxHeartbeats 8000000 in
theorem alive17_any (w : World) : Calls Tryd.prog 5 #[] w fun e w' => e = .returned (.bool true) ∧ Below w.heap.size w w' := by
  have cs := sections_any _ _ alX (w.alloc (.cells (flt hdC alX).toArray 34)) (elts_lit hdC_length w 34 alX (by decide)) (by decide) (by decide)
  rw [al_sec] at cs
  have CS := Lib.hid cs
  have HB0 := Lib.hid ((Below.refl w.heap.size w).alloc (Nat.le_refl _) (.cells (flt hdC alX).toArray 34))
  clear cs
  go_enter Tryd.func5, Tryd.ntmps5
  go_wp2_with fail
  refine CS.out.mono ?_
  rintro e w1 ⟨v1, rfl, hv1, b1⟩
  obtain ⟨A1, c1, rfl, hr1⟩ := EltsAt.own (X := [⟨1, [49], [97], [65]⟩, ⟨3, [49, 46, 49], [97, 45, 50], [65]⟩]) scC_length hv1
  have HR1 := Lib.hid hr1
  have HB1 := Lib.hid (HB0.out.then b1)
  have ca := all_any (some ⟨w1.heap.size, 0, none⟩) 5 [1, 2, 2, 1, 3] (w1.alloc (.cells #[.int .i64 1, .int .i64 2, .int .i64 2, .int .i64 1, .int .i64 3] 3)) (rowOf_lit w1 3 [.int .i64 1, .int .i64 2, .int .i64 2, .int .i64 1, .int .i64 3] (by decide)) (by decide)
  rw [al_all] at ca
  have CA := Lib.hid ca
  clear ca hr1 hv1 b1
  go_wp2_with fail
  refine CA.out.mono ?_
  rintro e w2 ⟨v2, rfl, hv2, b2⟩
  obtain ⟨A2, c2, rfl, hr2, _⟩ := RowOf.own hv2
  have HB2 := Lib.hid (HB1.out.then (((Below.refl w1.heap.size w1).alloc (Nat.le_refl _) (.cells #[.int .i64 1, .int .i64 2, .int .i64 2, .int .i64 1, .int .i64 3] 3)).then b2))
  have HR2 := Lib.hid (HR1.out.below (((Below.refl w1.heap.size w1).alloc (Nat.le_refl _) (.cells #[.int .i64 1, .int .i64 2, .int .i64 2, .int .i64 1, .int .i64 3] 3)).then b2))
  have bL := (Below.refl w2.heap.size w2).alloc (Nat.le_refl _) (.cells #[.string ⟨#[49]⟩, .string ⟨#[49, 46, 49]⟩, .string ⟨#[49, 46, 50]⟩, .string ⟨#[50]⟩, .string ⟨#[50, 46, 49]⟩] 9)
  have cm := same_any A2 (some ⟨w2.heap.size, 0, none⟩) c2 5 [[49], [49, 46, 49], [49, 46, 50], [50], [50, 46, 49]] [[49], [49, 46, 49], [49, 46, 50], [50], [50, 46, 49]] (w2.alloc (.cells #[.string ⟨#[49]⟩, .string ⟨#[49, 46, 49]⟩, .string ⟨#[49, 46, 50]⟩, .string ⟨#[50]⟩, .string ⟨#[50, 46, 49]⟩] 9)) (hr2.below bL) (rowOf_lit w2 9 (strs [[49], [49, 46, 49], [49, 46, 50], [50], [50, 46, 49]]) (by decide))
  rw [decide_eq_true (rfl : ([[49], [49, 46, 49], [49, 46, 50], [50], [50, 46, 49]] : List (List UInt8)) = _)] at cm
  have CM := Lib.hid cm
  have HR3 := Lib.hid (HR2.out.below bL)
  have HB3 := Lib.hid (HB2.out.then bL)
  clear cm hr2 bL
  go_wp2_with fail
  refine CM.out.mono ?_
  rintro e w3 ⟨rfl, n3, rfl⟩
  have hr4 : EltsAt ((w2.alloc (.cells #[.string ⟨#[49]⟩, .string ⟨#[49, 46, 49]⟩, .string ⟨#[49, 46, 50]⟩, .string ⟨#[50]⟩, .string ⟨#[50, 46, 49]⟩] 9)).drewN n3) scC 4 A1 c1 [⟨1, [49], [97], [65]⟩, ⟨3, [49, 46, 49], [97, 45, 50], [65]⟩] := EltsAt.heap (w := ((w2.alloc (.cells #[.string ⟨#[49]⟩, .string ⟨#[49, 46, 49]⟩, .string ⟨#[49, 46, 50]⟩, .string ⟨#[50]⟩, .string ⟨#[50, 46, 49]⟩] 9)))) (w' := ((w2.alloc (.cells #[.string ⟨#[49]⟩, .string ⟨#[49, 46, 49]⟩, .string ⟨#[49, 46, 50]⟩, .string ⟨#[50]⟩, .string ⟨#[50, 46, 49]⟩] 9)).drewN n3)) rfl HR3.out
  obtain ⟨b4, o4, rfl, _, hc4⟩ := hr4.at (k := 1) (by decide)
  have d0 := hc4 0 _ rfl
  have d1 := hc4 1 _ rfl
  have d2 := hc4 2 _ rfl
  have d3 := hc4 3 _ rfl
  simp only [List.getElem_cons_succ, List.getElem_cons_zero, scC, Nat.one_mul, Nat.add_zero] at d0 d1 d2 d3
  have hcap := hr4.cap
  have hle : 2 ≤ c1 := hr4.le
  unfold maxLen at hcap
  have HB4 := Lib.hid (below_drewN' HB3.out n3)
  clear hc4 hr4
  generalize (w2.alloc (.cells #[.string ⟨#[49]⟩, .string ⟨#[49, 46, 49]⟩, .string ⟨#[49, 46, 50]⟩, .string ⟨#[50]⟩, .string ⟨#[50, 46, 49]⟩] 9)).drewN n3 = w4 at *
  go_wp2
  go_ret
  exact ⟨rfl, HB4.out⟩

end Go.Proofs.YtpifhjdbcdcelaaDoor
