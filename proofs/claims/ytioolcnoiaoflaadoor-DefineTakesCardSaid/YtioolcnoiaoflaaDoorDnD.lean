/-
  Package define: Take: what it answers, in plain words.
-/
import Derived.Test.YtioolcnoiaoflaaDoorDnC
import Derived.Test.YtioolcnoiaoflaaDoorFlt
import Derived.Test.YtioolcnoiaoflaaDoorDefR
import Derived.OwnWalk
namespace Go.Proofs.YtioolcnoiaoflaaDoor
open Go.RowKit
set_option linter.unusedSimpArgs false
set_option linter.unusedVariables false
set_option maxRecDepth 100000

theorem index_lf : ∀ l : List UInt8, Lib.index l [10] = if (l.takeWhile (· != 10)).length = l.length then -1 else ((l.takeWhile (· != 10)).length : Int)
  | [] => rfl
  | b :: t => by
    unfold Lib.index
    have e : List.isPrefixOf [10] (b :: t) = ((10 : UInt8) == b) := by simp [List.isPrefixOf]
    rw [e]
    by_cases h : b = 10
    · subst h
      simp
    · have h2 : ((10 : UInt8) == b) = false := by rw [beq_eq_false_iff_ne]; exact fun e => h e.symm
      have e3 : (b :: t).takeWhile (· != 10) = b :: t.takeWhile (· != 10) := by rw [List.takeWhile_cons, if_pos (by simpa using h)]
      rw [h2, if_neg (by simp), index_lf t, e3]
      generalize t.takeWhile (· != 10) = x
      by_cases h3 : x.length = t.length
      · rw [if_pos h3, if_pos (show (b :: x).length = (b :: t).length by simp [h3]), if_pos (by rfl)]
      · rw [if_neg h3, if_neg (show ¬ (b :: x).length = (b :: t).length by simp [h3])]
        have : (((x.length : Nat) : Int) == -1) = false := by rw [beq_eq_false_iff_ne]; omega
        rw [if_neg (by rw [this]; simp)]
        simp
theorem cut_lf (l : List UInt8) : (Lib.cut l [10]).1 = l.takeWhile (· != 10) ∧ (Lib.cut l [10]).2.1 = (l.dropWhile (· != 10)).drop 1 := by
  have hs := List.takeWhile_append_dropWhile (p := fun b : UInt8 => b != 10) (l := l)
  unfold Lib.cut
  rw [index_lf]
  generalize l.takeWhile (· != 10) = a at *
  generalize l.dropWhile (· != 10) = d at *
  subst hs
  by_cases h : a.length = (a ++ d).length
  · have h3 : d = [] := List.eq_nil_of_length_eq_zero (by rw [List.length_append] at h; omega)
    subst h3
    rw [if_pos h, if_neg (by decide), List.append_nil]
    exact ⟨rfl, rfl⟩
  · rw [if_neg h, if_pos (Int.natCast_nonneg _), Int.toNat_natCast]
    constructor
    · exact List.take_left
    · show (a ++ d).drop (a.length + 1) = _
      rw [← List.drop_drop, List.drop_left]
theorem cutLf_any (s : ByteArray) (w : World) (hs : s.size < 4294967281) (hm : MaxL w) :
    Calls Tryd.prog 20 #[.string s, .string ⟨#[10]⟩] w fun e w' =>
      ∃ ok : Bool, e = .returned (.tuple #[.string ⟨(s.data.toList.takeWhile (· != 10)).toArray⟩, .string ⟨((s.data.toList.dropWhile (· != 10)).drop 1).toArray⟩, .bool ok]) ∧ Below w.heap.size w w' := by
  obtain ⟨m, hm⟩ := hm
  refine (Tryd.strings_Cut s ⟨#[10]⟩ m w hs hm).mono ?_
  rintro e w' ⟨rfl, n, rfl⟩
  rw [show (⟨#[10]⟩ : ByteArray).data.toList = [10] from rfl, (cut_lf _).1, (cut_lf _).2]
  exact ⟨_, rfl, below_drewN' (Below.refl _ _) n⟩
def strLen : Value → Nat
  | .string s => s.size
  | _ => 0

def TakeRel (s : ByteArray) (w : World) (z t : Value) (wr : World) : Prop :=
  ∃ (m : ByteArray) (D : List Dfn), z = .string m ∧ wr.ownsRow w.heap.size 29 5 t D.length (flt dfC D) ∧ Below w.heap.size w wr ∧ D.length + m.size ≤ s.size ∧ dtL s.data.toList = (D ++ (dtL m.data.toList).1, (dtL m.data.toList).2)

set_option maxHeartbeats 8000000 in
theorem dtake_any (s : ByteArray) (w : World) (hv : Elv w) (hs : s.size ≤ 1000000000) :
    Calls Tryd.prog 11 #[.string s] w fun e w' => ∃ v, e = .returned (.tuple #[v, .string ⟨(dtL s.data.toList).2.toArray⟩]) ∧ w'.ownsRow w.heap.size 29 5 v (dtL s.data.toList).1.length (flt dfC (dtL s.data.toList).1) ∧ Below w.heap.size w w' := by
  obtain ⟨i0, hi0, hz0, hz1, hz2⟩ := info_parts infoDef
  have HV := Lib.hid hv
  clear hv
  go_enter Tryd.func11, Tryd.ntmps11
  go_wp2_with fail
  go_loopw [0, 4] (fun z t wr => TakeRel s w z t wr) (fun z _ _ => strLen z)
  case atStart => exact ⟨s, [], rfl, World.ownsRow_nil _ _ _ _, Below.refl _ _, by simp, by simp⟩
  case round =>
    obtain ⟨m, D, rfl, hown, hbw, hlen, hdt⟩ := hrel
    have hsz := hbw.size
    have hv := HV.out.below hbw
    have c1 := cutLf_any m wr (by omega) hv.ml
    have hl1 : (m.data.toList.takeWhile (· != 10)).length ≤ m.size := by rw [← str_len m]; exact (List.takeWhile_sublist _).length_le
    have hl2 : ((m.data.toList.dropWhile (· != 10)).drop 1).length ≤ m.size - 1 := by
      rw [List.length_drop, ← str_len m]
      exact Nat.sub_le_sub_right (List.dropWhile_sublist _).length_le 1
    have hst := dtL_step m.data.toList
    have hme : m.data.toList = [] → (dlL (m.data.toList.takeWhile (· != 10))).2 = false := by intro h; rw [h]; rfl
    have c2 := fun w1 h => dline_any ⟨(m.data.toList.takeWhile (· != 10)).toArray⟩ w1 h (by rw [str_size]; omega)
    rw [show (⟨(m.data.toList.takeWhile (· != 10)).toArray⟩ : ByteArray).data.toList = m.data.toList.takeWhile (· != 10) from rfl] at c2
    have hm0 : m.data.toList = [] ∨ 0 < m.size := by
      by_cases h : 0 < m.size
      · exact Or.inr h
      · left; exact List.eq_nil_of_length_eq_zero (by rw [str_len]; omega)
    generalize m.data.toList.takeWhile (· != 10) = L at *
    generalize (m.data.toList.dropWhile (· != 10)).drop 1 = R at *
    generalize dlL L = y at *
    obtain ⟨x, ok⟩ := y
    simp only at hst hme c2
    unfold dfTib dfV at c2
    simp only at c2
    cases ok with
    | true =>
      rw [if_pos rfl] at hst
      have hm1 : 0 < m.size := by
        rcases hm0 with h | h
        · exact absurd (hme h) (by simp)
        · exact h
      have HM := Lib.hid (show D.length + 1 + R.length ≤ s.size from by omega)
      have HT := Lib.hid (show dtL s.data.toList = ((D ++ [x]) ++ (dtL R).1, (dtL R).2) from by rw [hdt, hst]; simp)
      have HL := Lib.hid hl2
      have HV1 := Lib.hid hv
      have HU : flt dfC (D ++ [x]) = flt dfC D ++ dfC x := by rw [flt_append, flt_one]
      replace HU := Lib.hid HU
      clear hdt hst hme hm0 hl2 hv
      go_wp2_with fail
      refine c1.mono ?_
      rintro e w1 ⟨q, rfl, b1⟩
      go_wp2_with fail
      refine (c2 _ (HV1.out.below b1)).mono ?_
      rintro e w2 ⟨rfl, b2⟩
      have b3 := b1.then b2
      have hown2 := ownsRow_below hown b3
      have hs2 := b3.size
      have hz9 := alloc_size w2 (.cells #[.string ⟨x.nm.toArray⟩, .string ⟨x.url.toArray⟩, .string ⟨x.ttl.toArray⟩, .string ⟨x.txt.toArray⟩, .bool x.nt] 29)
      have hnw := elt_cells (w2.alloc (.cells #[.string ⟨x.nm.toArray⟩, .string ⟨x.url.toArray⟩, .string ⟨x.ttl.toArray⟩, .string ⟨x.txt.toArray⟩, .bool x.nt] 29)) (dfC x) 29
      rw [hz9] at hnw
      have HZ9 := Lib.hid hz9
      clear hz9
      go_wp2_with (at_builtin; refine wpList_append_own _ rfl _ _ 32 rfl w.heap.size 29 i0 (.agg #[.string ByteArray.empty, .string ByteArray.empty, .string ByteArray.empty, .string ByteArray.empty, .bool false]) 5 72 Tryd.underlying32 hi0 hz0 hz1 hz2 rfl (by decide) _ _ _ rfl ((hown2.alloc _).alloc _) ⟨w2.heap.size + 1, 0, none⟩ 1 1 (dfC x) rfl rfl hnw (dfC_one _) (by unfold maxLen; omega) (by omega) (by simp; omega) ?_)
      intro v' w3 hown' hgrow _
      have hbw3 := (((hbw.trans (b3.mono hsz)).alloc (by omega) _).alloc (by rw [HZ9.out]; omega) _).grown hgrow (by simp; omega) (fun k hk => (hown2.lt k hk).1)
      rw [← HU.out] at hown'
      have HO := Lib.hid hown'
      have HB := Lib.hid hbw3
      clear hown' hgrow hbw3
      go_wp2
      go_roundw
      case rel => exact ⟨⟨R.toArray⟩, D ++ [x], rfl, by rw [List.length_append]; exact HO.out, HB.out, by rw [str_size, List.length_append]; exact HM.out, HT.out⟩
      case measure => have := HL.out; simp only [strLen, str_size]; omega
    | false =>
      rw [if_neg (by simp)] at hst
      have HT := Lib.hid (show dtL s.data.toList = (D, m.data.toList) from by rw [hdt, hst]; simp)
      have HV1 := Lib.hid hv
      clear hdt hst hme hm0 hl2 hv
      go_wp2_with fail
      refine c1.mono ?_
      rintro e w1 ⟨q, rfl, b1⟩
      go_wp2_with fail
      refine (c2 _ (HV1.out.below b1)).mono ?_
      rintro e w2 ⟨rfl, b2⟩
      have b3 := b1.then b2
      have hown2 := ownsRow_below hown b3
      have HB := Lib.hid (hbw.trans (b3.mono hsz))
      have HO := Lib.hid hown2
      clear hown hown2 hbw
      go_wp2
      go_ret2
      refine ⟨_, ?_, by rw [HT.out]; exact HO.out.alloc _, HB.out.alloc (Nat.le_trans hsz b3.size) _⟩
      rw [HT.out]
      exact by rw [Lib.mk_data]; rfl

end Go.Proofs.YtioolcnoiaoflaaDoor
