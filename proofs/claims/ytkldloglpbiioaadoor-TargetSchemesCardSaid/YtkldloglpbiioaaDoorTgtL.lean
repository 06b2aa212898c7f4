/-
  From a row's list of laid variables to what the walks ask: the variables 'named' of package entity and 'barred' of package target.
-/
import Derived.Test.YtkldloglpbiioaaDoorEntL
import Derived.Test.YtkldloglpbiioaaDoorTgtA
namespace Go.Proofs.YtkldloglpbiioaaDoor
open Go.ChangeShapes Go.WideShapes Go.ChangeAt Go.RowKit
set_option linter.unusedSimpArgs false
set_option linter.unusedVariables false

theorem barred_data {H : Type} : (Rows.laid_bowdler_target_barred : DataW H) = .agg (barredL.map fun e => .lit (.string e)) := rfl
theorem barred_met {L : List (String × DataW Unit)} {W : World} (hm : ("bowdler/target.barred", (Rows.laid_bowdler_target_barred : DataW Unit)) ∈ L) (h : laidMet Tryd.prog L W) : BarredIs W := by
  obtain ⟨g, t, cs, fuel, p, hg, hty, hvar, hd⟩ := Lib.laidMet.reads h hm
  obtain rfl : g = 0 := Option.some.inj (hg.symm.trans (by kernel_rfl))
  obtain rfl : t = 37 := Option.some.inj (hty.symm.trans (by kernel_rfl))
  have hl := array_length Tryd.underlying37 hd
  rw [show Tryd.prog.cellsOf 37 = 4 from by kernel_rfl] at hl
  rw [barred_data] at hd
  have hcs : cs = barredCells := by
    apply Array.ext'
    apply List.ext_getElem?
    intro i
    have hb : barredL.length = 4 := rfl
    by_cases hi : i < 4
    · obtain ⟨fuel', d, q, hdi, he⟩ := Lib.array_elem Tryd.underlying37 hd i hi
      rw [show Tryd.prog.cellsOf 9 = 1 from by kernel_rfl] at he
      obtain ⟨x, hx⟩ : ∃ x, barredL[i]? = some x := ⟨barredL[i]'(by omega), List.getElem?_eq_getElem (by omega)⟩
      rw [List.getElem?_map, hx] at hdi
      simp only [Option.map_some, Option.some.injEq] at hdi
      subst hdi
      obtain ⟨s0, hc0, hx0, _⟩ := DataW.trod_string Tryd.underlying9 he
      simp only [Prod.mk.injEq, DataW.lit.injEq, Lit.string.injEq] at hx0
      obtain ⟨hx0, _⟩ := hx0
      subst hx0
      have hc := congrArg (·[0]?) hc0
      simp only [List.getElem?_take, List.getElem?_drop] at hc
      rw [if_pos (by omega), show i * 1 + 0 = i from by omega] at hc
      rw [hc, show barredCells.toList = barredL.map fun e => Value.string ⟨e.toArray⟩ from rfl, List.getElem?_map, hx]
      simp
    · rw [List.getElem?_eq_none (by omega), List.getElem?_eq_none (by
        have : barredCells.toList.length = 4 := by decide +kernel
        omega)]
  subst hcs
  unfold World.var? at hvar
  rw [hg] at hvar
  simp only [Option.bind_some] at hvar
  split at hvar
  · rename_i cs' t' fr hh
    cases hvar
    exact ⟨_, _, hh⟩
  · cases hvar
theorem ten_of {W : World} (h : laidMetH Tryd.prog [("bowdler/entity.named", Rows.laid_bowdler_entity_named), ("bowdler/target.barred", Rows.laid_bowdler_target_barred)] W) : TenIs W := by
  rw [MakeChecks.laidMetH_plain _ _ _ (by kernel_rfl)] at h
  exact ⟨named_met (by simp) h, barred_met (by simp) h⟩

end Go.Proofs.YtkldloglpbiioaaDoor
