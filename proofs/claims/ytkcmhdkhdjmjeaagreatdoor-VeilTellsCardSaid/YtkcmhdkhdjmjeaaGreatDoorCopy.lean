/-
  The statements' book of lists: copyTexts.
-/
import Derived.Test.YtkcmhdkhdjmjeaaGreatDoorBase
import Derived.Laws.AppendOwnNone
import Derived.Deep.AppendLies
import Derived.Deep.RegionLaw
namespace Go.Proofs.YtkcmhdkhdjmjeaaGreatDoor
open Go.RowKit
set_option linter.unusedSimpArgs false
set_option linter.unusedVariables false

theorem copyTexts_any (A : Option Addr) (cap : Nat) (ls : List (List UInt8)) (w : World) (hrow : RowOf w A cap (strs ls)) (hn : ls.length ≤ 1000000) :
    Calls Tryz.prog 41 #[.slice A ls.length cap] w fun e w' => ∃ v, e = .returned v ∧ w'.ownsRow w.heap.size 9 1 v ls.length (strs ls) ∧ Below w.heap.size w w' := by
  obtain ⟨i0, hi, hz0, hz1, hz2⟩ := info_parts infoString
  have hl := strs_length ls
  have h1 := strs_one' ls
  rcases A with _ | ad
  · have h0 : ls = [] := by
      rcases hrow.2.2 with h | ⟨b, off, e, _⟩
      · exact List.map_eq_nil_iff.1 h
      · cases e
    subst h0
    go_enter Tryz.func41, Tryz.ntmps41
    go_wp2
    go_ret
    exact ⟨_, rfl, World.ownsRow_nil _ _ _ _, Below.refl _ _⟩
  · have hc := hrow.cells
    have HL := Lib.hid hl
    clear hl
    go_enter Tryz.func41, Tryz.ntmps41
    go_wp2_with (at_builtin; refine wpList_append_own _ rfl _ _ 22 rfl w.heap.size 9 i0 (.string ByteArray.empty) 1 16 Tryz.underlying22 hi hz0 hz1 hz2 rfl (by decide) _ 0 [] rfl (World.ownsRow_nil _ _ _ _) ad ls.length cap (strs ls) rfl (by rw [HL.out]; omega) hc h1 (by unfold maxLen; omega) (by omega) (Nat.le_refl _) ?_)
    intro v' w2 hown' hgrow _
    have hb := (Below.refl w.heap.size w).grown hgrow (Nat.le_refl _) (fun k hk => by simp [Value.ownBlock] at hk)
    have HO := Lib.hid hown'
    clear hown' hgrow
    go_wp2
    go_ret
    exact ⟨_, rfl, HO.out, hb⟩

end Go.Proofs.YtkcmhdkhdjmjeaaGreatDoor
