/-
  The laws of package lattice: alive, their first call; a list of pairs that is written out, or grown.
-/
import Derived.Test.YtmmdjbbbjlkmoaaDoorLatE
import Derived.KernelRfl
namespace Go.Proofs.YtmmdjbbbjlkmoaaDoor
open Go.RowKit
set_option linter.unusedSimpArgs false
set_option linter.unusedVariables false

theorem pairs_lit (w : World) (ps : List (Int × Int)) (t : TypeId) (hm : ps.length ≤ maxLen) : PairsAt (w.alloc (.cells (prCells ps).toArray t)) (some ⟨w.heap.size, 0, none⟩) ps.length ps := by
  refine ⟨Nat.le_refl _, hm, Or.inr ⟨w.heap.size, 0, rfl, by rw [alloc_size]; omega, fun i hi => ?_⟩⟩
  have hc := prCells_get ps i hi
  rw [Nat.zero_add, cell_of_row _ _ (i * 2) _ t (0, 0) (heap_alloc_new w _), cell_of_row _ _ (i * 2 + 1) _ t (0, 0) (heap_alloc_new w _)]
  simpa using hc
theorem pairs_nil (w : World) : PairsAt w none 0 [] := ⟨Nat.le_refl _, Nat.zero_le _, Or.inl rfl⟩

def ps4 : List (Int × Int) := [(0, 1), (0, 2), (1, 3), (2, 3)]
def T4 : Rel := fun a b => a == b || a == 0 || b == 3
theorem same4 : SameR 4 (leqS 4 ps4) T4 :=
  sameR_of (fun a b m ha hb hm h1 h2 => (by decide +kernel : ∀ a, a < 4 → ∀ b, b < 4 → ∀ m, m < 4 → T4 a m = true → T4 m b = true → T4 a b = true) a ha b hb m hm h1 h2)
    (fun a b ha hb h => (by decide +kernel : ∀ a, a < 4 → ∀ b, b < 4 → baseR ps4 a b = true → T4 a b = true) a ha b hb h)
    (fun a b ha hb h => by
      obtain ⟨c, hc, h1, h2⟩ := (by decide +kernel : ∀ a, a < 4 → ∀ b, b < 4 → T4 a b = true → ∃ c, c < 4 ∧ baseR ps4 a c = true ∧ baseR ps4 c b = true) a ha b hb h
      exact leqS_trans hc (warN_base _ _ _ _ h1) (warN_base _ _ _ _ h2))
theorem sound4 : Sound 4 T4 := by decide +kernel
theorem err4 : errS 4 ps4 = 0 := by
  unfold errS
  rw [if_neg (by decide), if_neg (by decide +kernel), if_pos]
  exact same4.symm.sound sound4
theorem err2 : errS 2 [] = 1 := by
  unfold errS
  rw [if_neg (by decide), if_neg (by decide +kernel), if_neg]
  show ¬ Sound 2 (leqS 2 [])
  decide +kernel

set_option maxRecDepth 100000 in
set_option maxHeartbeats 2000000 in
theorem alive5_any (w : World) (hT : TabIs w) :
    Calls Tryd.prog 9 #[] w fun e w' => e = .returned (.bool true) ∧ Below w.heap.size w w' := by
  have hp := pairs_lit w ps4 43 (by decide)
  have hb0 : Below w.heap.size w (w.alloc (.cells (prCells ps4).toArray 43)) := (Below.refl _ w).alloc (Nat.le_refl _) _
  have hT0 := hT.below hb0
  have cn := new_ok (some ⟨w.heap.size, 0, none⟩) 4 4 ps4 _ hT0 hp err4
  have cn2 := fun w1 h => new_err none 0 2 1 [] w1 h (pairs_nil w1) err2 (by decide)
  have hx : w.alloc (.cells (prCells ps4).toArray 43) = w.alloc (.cells #[.int .i64 0, .int .i64 1, .int .i64 0, .int .i64 2, .int .i64 1, .int .i64 3, .int .i64 2, .int .i64 3] 43) := rfl
  rw [hx] at cn hT0 hb0
  have HT := Lib.hid hT0
  have HB := Lib.hid hb0
  clear hp hx hT hT0 hb0
  go_enter Tryd.func9, Tryd.ntmps9
  go_wp2_with fail
  refine cn.mono ?_
  rintro e w1 ⟨b, rfl, b1, hbl, hl⟩
  have HL := Lib.hid hl
  have HB1 := Lib.hid (HB.out.then b1)
  have HT1 := Lib.hid (HT.out.below b1)
  clear b1 hl cn
  go_wp2_with fail
  refine (cn2 _ HT1.out).mono ?_
  rintro e w2 ⟨rfl, b2⟩
  have HB2 := Lib.hid (HB1.out.then b2)
  have hT2 := HT1.out.below b2
  have hl2 := HL.out.below b2
  have cj := fun q => join_any 1 2 (w2.drewN q) (hT2.heap rfl) (hl2.heap (w' := w2.drewN q) rfl)
  have cm := fun q => meet_any 1 2 (w2.drewN q) (hT2.heap rfl) (hl2.heap (w' := w2.drewN q) rfl)
  have ct := fun q => top_any (w2.drewN q) (hT2.heap rfl) (hl2.heap (w' := w2.drewN q) rfl)
  have cb := fun q => bot_any (w2.drewN q) (hT2.heap rfl) (hl2.heap (w' := w2.drewN q) rfl)
  have cl := fun q => leq_any 0 3 (w2.drewN q) (hl2.heap (w' := w2.drewN q) rfl)
  have cl2 := fun q => leq_any 1 2 (w2.drewN q) (hl2.heap (w' := w2.drewN q) rfl)
  rw [show joinI 4 (leqS 4 ps4) 1 2 = 3 from (same4.join (a := 1) (b := 2) (by decide) (by decide)).trans (by decide +kernel)] at cj
  rw [show meetI 4 (leqS 4 ps4) 1 2 = 0 from (same4.meet (a := 1) (b := 2) (by decide) (by decide)).trans (by decide +kernel)] at cm
  rw [show topR 4 (leqS 4 ps4) = 3 from same4.top.trans (by decide +kernel)] at ct
  rw [show botR 4 (leqS 4 ps4) = 0 from same4.bot.trans (by decide +kernel)] at cb
  rw [show leqI 4 (leqS 4 ps4) 0 3 = true from (same4 0 3 (by decide) (by decide)).trans (by decide +kernel)] at cl
  rw [show leqI 4 (leqS 4 ps4) 1 2 = false from (same4 1 2 (by decide) (by decide)).trans (by decide +kernel)] at cl2
  clear b2 hT2 hl2 cn2
  go_wp2_with fail
  refine (cj 0).mono ?_
  rintro e w3 ⟨rfl, m, rfl⟩
  rw [World.drewN_drewN]
  go_wp2_with fail
  refine (cm _).mono ?_
  rintro e w3 ⟨rfl, m, rfl⟩
  rw [World.drewN_drewN]
  go_wp2_with fail
  refine (ct _).mono ?_
  rintro e w3 ⟨rfl, m, rfl⟩
  rw [World.drewN_drewN]
  go_wp2_with fail
  refine (cb _).mono ?_
  rintro e w3 ⟨rfl, m, rfl⟩
  rw [World.drewN_drewN]
  go_wp2_with fail
  refine (cl _).mono ?_
  rintro e w3 ⟨rfl, rfl⟩
  go_wp2_with fail
  refine (cl2 _).mono ?_
  rintro e w3 ⟨rfl, rfl⟩
  go_wp2
  go_ret
  exact ⟨rfl, below_drewN' HB2.out _⟩

end Go.Proofs.YtmmdjbbbjlkmoaaDoor
