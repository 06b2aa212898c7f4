/-
  From a row's list of laid variables to what the walks ask: the variable 'named' of package entity.
-/
import Derived.Test.YtggdpmaomhmobaaGreatDoorEntA
import Derived.LaidMore
import Derived.Lay
import Derived.SevenTiedAt
import Derived.Stop.Joined
import Derived.Lib.LaidU8
namespace Go.Proofs.YtggdpmaomhmobaaGreatDoor
open Go.ChangeShapes Go.WideShapes Go.ChangeAt Go.RowKit
set_option linter.unusedSimpArgs false
set_option linter.unusedVariables false

section
variable {H : Type} {enc : TypeId × Value → H} {P : Program} {w : World} {base : Nat} {sp : Nat → Bool} {held : Bool}
/-- A struct of two texts that reads as these holds them, cell for cell. -/
theorem pair_of_struct {fuel : Nat} {t : TypeId} {fs : Array Field} {f0 f1 : Field} {cs : List Value} {a b : List UInt8} {p : List MemPlace} (ht : P.underlying t = some (.struct fs)) (hf : fs = #[f0, f1])
    (u0 : P.underlying f0.type = some .string) (u1 : P.underlying f1.type = some .string) (o0 : f0.offset = 0) (o1 : f1.offset = 1) (c0 : P.cellsOf f0.type = 1) (c1 : P.cellsOf f1.type = 1) (hct : P.cellsOf t = 2)
    (h : DataW.trod enc P w base sp held fuel t cs = some (.agg [.lit (.string a), .lit (.string b)], p)) : cs = [.string ⟨a.toArray⟩, .string ⟨b.toArray⟩] := by
  obtain ⟨xs, n, rfl, hx, hl, hxl, hall⟩ := DataW.trod_struct ht h
  have hxs : [.lit (.string a), .lit (.string b)] = xs.map (·.1) := by
    have := congrArg Prod.fst hx
    simpa using this
  subst hf
  obtain ⟨x0, x1, rfl⟩ : ∃ x0 x1, xs = [x0, x1] := by
    match xs, hxs with
    | [x0, x1], _ => exact ⟨x0, x1, rfl⟩
  simp only [List.map_cons, List.map_nil, List.cons.injEq, and_true] at hxs
  obtain ⟨e0, e1⟩ := hxs
  have g0 := hall 0 f0 rfl
  have g1 := hall 1 f1 rfl
  rw [o0, c0] at g0
  rw [o1, c1] at g1
  obtain ⟨s0, hc0, hx0, _⟩ := DataW.trod_string u0 g0
  obtain ⟨s1, hc1, hx1, _⟩ := DataW.trod_string u1 g1
  rw [hx0] at e0
  rw [hx1] at e1
  simp only [DataW.lit.injEq, Lit.string.injEq] at e0 e1
  subst e0; subst e1
  rw [hct] at hl
  obtain ⟨y0, y1, rfl⟩ : ∃ y0 y1, cs = [y0, y1] := by
    match cs, hl with
    | [y0, y1], _ => exact ⟨y0, y1, rfl⟩
  simp at hc0 hc1
  rw [hc0, hc1]
theorem array_length {fuel : Nat} {t e : TypeId} {n : Nat} {cs : List Value} {x : DataW H × List MemPlace} (ht : P.underlying t = some (.array n e))
    (h : DataW.trod enc P w base sp held fuel t cs = some x) : cs.length = P.cellsOf t := by
  cases fuel with
  | zero => simp [DataW.trod] at h
  | succ fuel =>
    simp only [DataW.trod, ht] at h
    split at h
    · rename_i hl
      simpa using hl
    · cases h
end

theorem named_data {H : Type} : (Rows.laid_bowdler_entity_named : DataW H) = .agg (namedL.map fun e => .agg [.lit (.string e.1), .lit (.string e.2)]) := rfl
theorem named_met {L : List (String × DataW Unit)} {W : World} (hm : ("bowdler/entity.named", (Rows.laid_bowdler_entity_named : DataW Unit)) ∈ L) (h : laidMet Tryz.prog L W) : NamedIs W := by
  obtain ⟨g, t, cs, fuel, p, hg, hty, hvar, hd⟩ := Lib.laidMet.reads h hm
  obtain rfl : g = 0 := Option.some.inj (hg.symm.trans (by kernel_rfl))
  obtain rfl : t = 61 := Option.some.inj (hty.symm.trans (by kernel_rfl))
  have hl := array_length Tryz.underlying61 hd
  rw [show Tryz.prog.cellsOf 61 = 46 from by kernel_rfl] at hl
  rw [named_data] at hd
  have hcs : cs = namedCells := by
    apply Array.ext'
    apply List.ext_getElem?
    intro i
    by_cases hi : i < 46
    · obtain ⟨fuel', d, q, hdi, he⟩ := Lib.array_elem Tryz.underlying61 hd (i / 2) (by omega)
      rw [show Tryz.prog.cellsOf 60 = 2 from by kernel_rfl] at he
      have hnl := namedL_length
      obtain ⟨x, hx⟩ : ∃ x, namedL[i / 2]? = some x := ⟨namedL[i / 2]'(by omega), List.getElem?_eq_getElem (by omega)⟩
      rw [List.getElem?_map, hx] at hdi
      simp only [Option.map_some, Option.some.injEq] at hdi
      subst hdi
      have hp := pair_of_struct Tryz.underlying60 rfl Tryz.underlying9 Tryz.underlying9 rfl rfl (by kernel_rfl) (by kernel_rfl) (by kernel_rfl) he
      have hc := congrArg (·[i % 2]?) hp
      simp only [List.getElem?_take, List.getElem?_drop] at hc
      rw [if_pos (by omega), show i / 2 * 2 + i % 2 = i from by omega] at hc
      rw [hc]
      have hflat : ∀ (l : List (List UInt8 × List UInt8)) (j : Nat) (x : List UInt8 × List UInt8) (r : Nat), l[j]? = some x → r < 2 → ((l.flatMap fun e => [Value.string ⟨e.1.toArray⟩, Value.string ⟨e.2.toArray⟩]))[2 * j + r]? = [Value.string ⟨x.1.toArray⟩, Value.string ⟨x.2.toArray⟩][r]? := by
        intro l
        induction l with
        | nil => intro j x r hj; simp at hj
        | cons y l ih =>
          intro j x r hj hr
          cases j with
          | zero =>
            simp at hj
            subst hj
            rw [List.flatMap_cons, List.getElem?_append_left (by simp; omega)]
            simp
          | succ j =>
            simp at hj
            rw [List.flatMap_cons, List.getElem?_append_right (by simp; omega)]
            rw [← ih j x r hj hr]
            simp
            congr 1
            omega
      have hfl := hflat namedL (i / 2) x (i % 2) hx (by omega)
      rw [show 2 * (i / 2) + i % 2 = i from by omega] at hfl
      rw [show namedCells.toList = namedL.flatMap fun e => [Value.string ⟨e.1.toArray⟩, Value.string ⟨e.2.toArray⟩] from rfl, hfl]
    · rw [List.getElem?_eq_none (by omega), List.getElem?_eq_none (by
        have : namedCells.toList.length = 46 := by decide +kernel
        omega)]
  subst hcs
  unfold World.var? at hvar
  rw [hg] at hvar
  simp only [Option.bind_some] at hvar
  split at hvar
  · rename_i cs' t' fr hh
    cases hvar
    exact ⟨_, _, hh⟩
  · cases hvar

theorem named_of {W : World} (h : laidMetH Tryz.prog [("bowdler/entity.named", Rows.laid_bowdler_entity_named)] W) : NamedIs W := by
  rw [MakeChecks.laidMetH_plain _ _ _ (by kernel_rfl)] at h
  exact named_met (by simp) h

end Go.Proofs.YtggdpmaomhmobaaGreatDoor
