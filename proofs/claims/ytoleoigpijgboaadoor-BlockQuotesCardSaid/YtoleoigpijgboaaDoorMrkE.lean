/-
  Package mark: Html: what it answers, in plain words; the laws' first call.
-/
import Derived.Test.YtoleoigpijgboaaDoorMrkD
namespace Go.Proofs.YtoleoigpijgboaaDoor
open Go.RowKit
set_option linter.unusedSimpArgs false
set_option linter.unusedVariables false

set_option maxHeartbeats 4000000 in
theorem mkHtml_any (s : ByteArray) (w : World) (hs : s.size ≤ 35184372088832) :
    Calls Tryd.prog 35 #[.string s] w fun e w' => e = .returned (.bool (mkHtml s.data.toList)) ∧ Below w.heap.size w w' := by
  have c1 := begin_any s w hs
  generalize hV : mkHtml s.data.toList = V
  unfold mkHtml at hV
  cases hb : mkBegin s.data.toList with
  | nil =>
    rw [hb] at c1 hV
    have c2 : ∀ w1, Calls Tryd.prog 57 #[.string ⟨#[]⟩, .string ⟨#[60]⟩] w1 fun e w' => e = .returned (.tuple #[.string ⟨#[]⟩, .bool false]) ∧ w' = w1 := fun w1 => Tryd.strings_CutPrefix ⟨#[]⟩ ⟨#[60]⟩ w1
    have HV := Lib.hid (show V = false from by rw [← hV])
    clear hV hb
    go_enter Tryd.func35, Tryd.ntmps35
    go_wp2_with fail
    refine c1.mono ?_
    rintro e w1 ⟨rfl, b1⟩
    go_wp2_with fail
    refine (c2 w1).mono ?_
    rintro e w1 ⟨rfl, rfl⟩
    go_wp2
    go_ret
    exact ⟨by rw [HV.out]; rfl, b1⟩
  | cons b t =>
    rw [hb] at c1 hV
    have c2 := fun w1 => Tryd.strings_CutPrefix ⟨(b :: t).toArray⟩ ⟨#[60]⟩ w1
    rw [show (⟨#[60]⟩ : ByteArray).data.toList = [60] from rfl, show (⟨(b :: t).toArray⟩ : ByteArray).data.toList = b :: t from rfl] at c2
    obtain ⟨X, hX, hX2⟩ := text_of (b :: t)
    rw [hX] at c1 c2
    by_cases h60 : b = 60
    · subst h60
      rw [show Lib.trimPrefix (60 :: t) [60] = t from by cases t <;> rfl, show Lib.hasPrefix (60 :: t) [60] = true from by cases t <;> rfl] at c2
      cases t with
      | nil =>
        have HV := Lib.hid (show V = false from by rw [← hV]; rfl)
        clear hV hb hX hX2
        go_enter Tryd.func35, Tryd.ntmps35
        go_wp2_with fail
        refine c1.mono ?_
        rintro e w1 ⟨rfl, b1⟩
        go_wp2_with fail
        refine (c2 w1).mono ?_
        rintro e w1 ⟨rfl, rfl⟩
        go_wp2
        go_ret
        exact ⟨by rw [HV.out]; rfl, b1⟩
      | cons d t =>
        have HV := Lib.hid (show V = isHtm d from by rw [← hV]; rfl)
        obtain ⟨Y, hY, hY2⟩ := text_of (d :: t)
        rw [hY] at c2
        have hYs : Y.data.toList.length = Y.size := by simp
        have hy1 : 0 < Y.size := by rw [hY2] at hYs; simp at hYs; omega
        have hy0 : Y[0] = d := by
          have := get_list Y 0 hy1
          rw [hY2, List.drop_zero] at this
          injection this with e _
          exact e.symm
        have hne := toList_empty hy1
        have c3 := fun w1 => htmlSign_any (d.toNat : Int) w1 (by omega) (by have := d.toNat_lt; omega)
        rw [htmI_byte] at c3
        clear hV hb hX hX2 hYs hY hY2
        go_enter Tryd.func35, Tryd.ntmps35
        go_wp2_with fail
        refine c1.mono ?_
        rintro e w1 ⟨rfl, b1⟩
        go_wp2_with fail
        refine (c2 w1).mono ?_
        rintro e w1 ⟨rfl, rfl⟩
        go_wp2_with fail
        refine (c3 w1).mono ?_
        rintro e w1 ⟨rfl, rfl⟩
        go_wp2
        go_ret
        exact ⟨by rw [HV.out]; rfl, b1⟩
    · have hp : Lib.hasPrefix (b :: t) [60] = false := by
        have : (60 == b) = false := by simpa using fun e => h60 e.symm
        simp [Lib.hasPrefix, List.isPrefixOf, this]
      have HV := Lib.hid (show V = false from by
        rw [← hV]
        split
        · rename_i h
          injection h with h1 _
          exact absurd h1 h60
        · rfl)
      rw [hp] at c2
      clear hV hb hX hX2 hp
      generalize Lib.trimPrefix (b :: t) [60] = Y at *
      go_enter Tryd.func35, Tryd.ntmps35
      go_wp2_with fail
      refine c1.mono ?_
      rintro e w1 ⟨rfl, b1⟩
      go_wp2_with fail
      refine (c2 w1).mono ?_
      rintro e w1 ⟨rfl, rfl⟩
      go_wp2
      go_ret
      exact ⟨by rw [HV.out]; rfl, b1⟩

end Go.Proofs.YtoleoigpijgboaaDoor
