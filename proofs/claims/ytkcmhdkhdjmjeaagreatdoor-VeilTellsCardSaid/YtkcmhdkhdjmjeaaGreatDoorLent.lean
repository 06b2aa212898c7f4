/-
  The statements' helpers: LentTexts, StaysTexts.
-/
import Derived.Test.YtkcmhdkhdjmjeaaGreatDoorCopy
import Derived.Test.YtkcmhdkhdjmjeaaGreatDoorTexts
namespace Go.Proofs.YtkcmhdkhdjmjeaaGreatDoor
open Go.RowKit
set_option linter.unusedSimpArgs false
set_option linter.unusedVariables false

def markW : List UInt8 := [109, 97, 114, 107]

set_option maxHeartbeats 1000000 in
theorem lentTexts_any (A : Option Addr) (cap : Nat) (ls : List (List UInt8)) (w : World) (hrow : RowOf w A cap (strs ls)) (hn : ls.length ≤ 100000) :
    Calls Tryz.prog 13 #[.slice A ls.length cap] w fun e w' => ∃ g c, e = .returned (.slice (some ⟨g, 0, none⟩) ls.length c) ∧
      w'.ownsRow w.heap.size 9 1 (.slice (some ⟨g, 0, none⟩) (ls.length + 1) c) (ls.length + 1) (strs (ls ++ [markW])) ∧ Below w.heap.size w w' := by
  obtain ⟨i0, hi, hz0, hz1, hz2⟩ := info_parts infoString
  go_enter Tryz.func13, Tryz.ntmps13
  go_wp2_with fail
  refine (copyTexts_any A cap ls w hrow (by omega)).mono ?_
  rintro e w1 ⟨v, rfl, hown, b1⟩
  obtain ⟨A1, c1, rfl, _, _⟩ := RowOf.own hown
  have hs1 := b1.size
  go_wp2_with (at_builtin; refine wpList_append_lies _ rfl _ _ 22 rfl w.heap.size 9 i0 (.string ByteArray.empty) 1 16 Tryz.underlying22 hi hz0 hz1 hz2 rfl (by decide) _ _ _ rfl (hown.alloc _) ⟨w1.heap.size, 0, none⟩ 1 1 [.string ⟨#[109, 97, 114, 107]⟩] rfl rfl ?c1 ?c2 (by omega) ?c3 ?c4 ?c5 _ rfl ?_)
  case c1 =>
    intro j x hj
    match j, hj with
    | 0, hj =>
      simp at hj
      subst hj
      rw [addr_add, cell_of_row _ _ 0 _ _ (0, 0) (heap_alloc_new w1 _)]
      rfl
  case c2 => intro u hu; simp at hu; subst hu; rfl
  case c3 => unfold maxLen; omega
  case c4 => omega
  case c5 => simp; omega
  · intro g cap1 w2 hown2 hgrow hat hlt
    have hbw := ((b1.alloc (by omega) (.cells #[.string ⟨#[109, 97, 114, 107]⟩] 9)).grown hgrow (by simp; omega) (fun k hk => (hown.lt k hk).1))
    have hcap : (ls.length : Int) ≤ cap1 := by
      obtain ⟨A2, c2, e2, hr2, _⟩ := RowOf.own hown2
      cases e2
      have := hr2.1
      simp [strs] at this
      omega
    have HO := Lib.hid (show w2.ownsRow w.heap.size 9 1 (.slice (some ⟨g, 0, none⟩) (ls.length + 1) cap1) (ls.length + 1) (strs (ls ++ [markW])) from by rw [strs_append]; exact hown2)
    clear hown2 hgrow hat hown
    go_wp2
    go_ret
    exact ⟨g, cap1, rfl, HO.out, hbw⟩

set_option maxHeartbeats 1000000 in
theorem staysTexts_any (g c : Nat) (B : Option Addr) (cb : Nat) (ls : List (List UInt8)) (w : World) (hr1 : RowOf w (some ⟨g, 0, none⟩) c (strs (ls ++ [markW]))) (hr2 : RowOf w B cb (strs ls)) (hn : ls.length ≤ 100000) :
    Calls Tryz.prog 16 #[.slice (some ⟨g, 0, none⟩) ls.length c, .slice B ls.length cb] w (QuietBool w true) := by
  have hr3 := hr1.take ls.length
  rw [show (strs (ls ++ [markW])).take ls.length = strs ls from by simp [strs]] at hr3
  have cs := same_any (some ⟨g, 0, none⟩) B c cb ls ls w hr3 hr2
  rw [decide_eq_true (rfl : ls = ls)] at cs
  have hc1 := hr1.1
  have hc2 := hr1.2.1
  rw [strs_length, List.length_append] at hc1
  simp only [List.length_cons, List.length_nil] at hc1
  unfold maxLen at hc2
  obtain ⟨b, off, e, hb, hcell⟩ := hr1.cellAt (k := ls.length) (by simp)
  cases e
  have hcell2 : w.cell? ⟨g, ls.length, none⟩ = some (.string ⟨#[109, 97, 114, 107]⟩) := by
    rw [Nat.zero_add] at hcell
    rw [hcell]
    simp [markW]
  have CS := Lib.hid cs
  clear cs hcell
  have hk1 : (ls.length : Int) + 1 ≤ c := by omega
  go_enter Tryz.func16, Tryz.ntmps16
  go_wp2_with (go_at_call 47; refine CS.out.mono ?_; rintro e w' ⟨rfl, n, rfl⟩)
  go_ret
  exact ⟨rfl, _, rfl⟩

end Go.Proofs.YtkcmhdkhdjmjeaaGreatDoor
