/-
  From a row's list of laid variables to what the walks ask: the variables 'named' of package entity and 'marks' of package token, the library's MaxLen.
-/
import Derived.Test.YtggdpmaomhmobaaGreatDoorEntL
import Derived.Test.YtggdpmaomhmobaaGreatDoorTkG
import Derived.Test.YtggdpmaomhmobaaGreatDoorHna
namespace Go.Proofs.YtggdpmaomhmobaaGreatDoor
open Go.ChangeShapes Go.WideShapes Go.ChangeAt Go.RowKit
set_option linter.unusedSimpArgs false
set_option linter.unusedVariables false

def marksL : List (List UInt8) := [[33, 91], [91], [93]]
theorem marks_data {H : Type} : (Rows.laid_bowdler_token_marks : DataW H) = .agg (marksL.map fun e => .lit (.string e)) := rfl
theorem marks_cells : marksCells.toList = marksL.map fun e => Value.string ⟨e.toArray⟩ := rfl
theorem marks_met {L : List (String × DataW Unit)} {W : World} (hm : ("bowdler/token.marks", (Rows.laid_bowdler_token_marks : DataW Unit)) ∈ L) (h : laidMet Tryz.prog L W) : MarksIs W := by
  obtain ⟨g, t, cs, fuel, p, hg, hty, hvar, hd⟩ := Lib.laidMet.reads h hm
  obtain rfl : g = 1 := Option.some.inj (hg.symm.trans (by kernel_rfl))
  obtain rfl : t = 80 := Option.some.inj (hty.symm.trans (by kernel_rfl))
  have hl := array_length Tryz.underlying80 hd
  rw [show Tryz.prog.cellsOf 80 = 3 from by kernel_rfl] at hl
  rw [marks_data] at hd
  have hcs : cs = marksCells := by
    apply Array.ext'
    apply List.ext_getElem?
    intro i
    have hb : marksL.length = 3 := rfl
    by_cases hi : i < 3
    · obtain ⟨fuel', d, q, hdi, he⟩ := Lib.array_elem Tryz.underlying80 hd i hi
      rw [show Tryz.prog.cellsOf 9 = 1 from by kernel_rfl] at he
      obtain ⟨x, hx⟩ : ∃ x, marksL[i]? = some x := ⟨marksL[i]'(by omega), List.getElem?_eq_getElem (by omega)⟩
      rw [List.getElem?_map, hx] at hdi
      simp only [Option.map_some, Option.some.injEq] at hdi
      subst hdi
      obtain ⟨s0, hc0, hx0, _⟩ := DataW.trod_string Tryz.underlying9 he
      simp only [Prod.mk.injEq, DataW.lit.injEq, Lit.string.injEq] at hx0
      obtain ⟨hx0, _⟩ := hx0
      subst hx0
      have hc := congrArg (·[0]?) hc0
      simp only [List.getElem?_take, List.getElem?_drop] at hc
      rw [if_pos (by omega), show i * 1 + 0 = i from by omega] at hc
      rw [hc, marks_cells, List.getElem?_map, hx]
      simp
    · rw [List.getElem?_eq_none (by omega), List.getElem?_eq_none (by
        have : marksCells.toList.length = 3 := by decide +kernel
        omega)]
  subst hcs
  unfold World.var? at hvar
  rw [hg] at hvar
  simp only [Option.bind_some] at hvar
  split at hvar
  · rename_i cs' t' fr hh
    cases hvar
    exact ⟨_, _, hh⟩
  · cases hvar
theorem tkw_of {W : World} (h : laidMetH Tryz.prog Rows.tokenWordsRow.laid W) (hs : W.ShapedOpen Tryz.prog) : TkW W := by
  rw [MakeChecks.laidMetH_plain _ _ _ (by kernel_rfl)] at h
  exact ⟨named_met (by simp [Rows.tokenWordsRow]) h, marks_met (by simp [Rows.tokenWordsRow]) h, maxL_of hs⟩

end Go.Proofs.YtggdpmaomhmobaaGreatDoor
