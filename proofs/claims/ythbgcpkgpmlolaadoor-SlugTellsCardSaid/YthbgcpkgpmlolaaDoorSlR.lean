/-
  The document's own answers for chapter 16: a text's anchor.
-/
import Derived.Test.YthbgcpkgpmlolaaDoorSlG
import Derived.Test.YthbgcpkgpmlolaaDoorRefC
namespace Go.Proofs.YthbgcpkgpmlolaaDoor
open Go.RowKit Go.Maps
set_option linter.unusedSimpArgs false
set_option linter.unusedVariables false
set_option maxRecDepth 100000

def RsRel (f : ByteArray) (o i : Value) : Prop := ∃ (k : Nat) (U : ByteArray), i = .int .i64 k ∧ o = .string U ∧ k ≤ f.size ∧ U.data.toList = slRow (f.data.toList.take k)
theorem rs_step (f : ByteArray) (k : Nat) (h : k < f.size) : slRow (f.data.toList.take (k + 1)) = slOne (slRow (f.data.toList.take k)) f[k] := by
  rw [List.take_succ_eq_append_getElem (by simpa using h), slRow_append]
  rfl
def RtRel (E : List UInt8) (t : Value) : Prop := ∃ p : ByteArray, t = .string p ∧ p.size ≤ 40 ∧ SlOk p.data.toList ∧ slTrim p.data.toList = E
theorem slOne_keep {id : List UInt8} {b : UInt8} (h : slKeep b = true) : slOne id b = id ++ [b] := by unfold slOne; rw [if_pos h]
theorem slOne_dash2 {id : List UInt8} {b : UInt8} (h : slKeep b = false) (h2 : id.getLastD 45 ≠ 45) : slOne id b = id ++ [45] := by unfold slOne; rw [if_neg (by rw [h]; simp), if_neg h2]
theorem slOne_none {id : List UInt8} {b : UInt8} (h : slKeep b = false) (h2 : id.getLastD 45 = 45) : slOne id b = id := by unfold slOne; rw [if_neg (by rw [h]; simp), if_pos h2]
theorem slKeep_yes {b : UInt8} (h : slKeep b = true) : (97 ≤ (b.toNat : Int) ∧ (b.toNat : Int) ≤ 122) ∨ ((b.toNat : Int) < 97 ∧ 48 ≤ (b.toNat : Int) ∧ (b.toNat : Int) ≤ 57) := by simp [slKeep] at h; omega
theorem slKeep_no {b : UInt8} (h : slKeep b = false) : (97 ≤ (b.toNat : Int) ∧ 122 < (b.toNat : Int) ∧ 48 ≤ (b.toNat : Int) ∧ 57 < (b.toNat : Int)) ∨ ((b.toNat : Int) < 97 ∧ 48 ≤ (b.toNat : Int) ∧ 57 < (b.toNat : Int)) ∨ ((b.toNat : Int) < 97 ∧ (b.toNat : Int) < 48) := by simp [slKeep] at h; omega
theorem one_at (f : ByteArray) (k : Nat) (h : k < f.size) : (f.extract k (k + 1)).data.toList = [f[k]] := by
  rw [ByteArray.data_extract, Array.toList_extract, List.extract_eq_take_drop, List.drop_eq_getElem_cons (by simpa using h), show k + 1 - k = 1 from by omega]
  rfl

set_option maxHeartbeats 8000000 in
theorem refSlug_any (s : ByteArray) (w : World) (hs : s.size ≤ 1000000) (hT : Tabs w) :
    Calls Tryd.prog 11 #[.string s] w fun e w' => e = .returned (.string ⟨(slugL s.data.toList).toArray⟩) ∧ Below w.heap.size w w' := by
  have cf := refFold_any s w (by omega) hT
  have hfl : (foldOf s).data.toList = foldL s.data.toList := rfl
  have hfs := foldOf_size s
  have hE : slugL s.data.toList = slEnd ((slRow (foldOf s).data.toList).take 40) := rfl
  generalize slugL s.data.toList = res at *
  generalize foldOf s = f at *
  have HE := Lib.hid hE
  clear hE hfl hT
  go_enter Tryd.func11, Tryd.ntmps11
  go_wp2_with fail
  refine cf.mono ?_
  rintro e w1 ⟨rfl, b1⟩
  have HB1 := Lib.hid b1
  clear b1 cf
  go_wp2_with fail
  go_loop [4, 5] (fun o i => RsRel f o i) (fun _ i => f.size - (intOf i).toNat)
  case atStart => exact ⟨0, ⟨#[]⟩, rfl, rfl, Nat.zero_le _, rfl⟩
  case round =>
    obtain ⟨k, U, rfl, rfl, hk, hU⟩ := hrel
    have hUs : U.size ≤ k := by
      have h1 := slSize U
      have h2 := slRow_len (f.data.toList.take k)
      rw [hU] at h1
      rw [List.length_take] at h2
      omega
    by_cases hkf : k < f.size
    · have hst := rs_step f k hkf
      cases hb : slKeep f[k] with
      | true =>
        rw [slOne_keep hb, ← hU, ← one_at f k hkf, ← Array.toList_append, ← ByteArray.data_append] at hst
        have HS := Lib.hid hst
        have hsl := fun W => slice_lohi f (k : Int) ((k : Int) + 1) k (k + 1) rfl (by omega) (by omega) (by omega) W
        have hes : (f.extract k (k + 1)).size = 1 := by rw [← slSize, one_at f k hkf]; rfl
        have r1 := fun W => run_string_add_sum (P := Tryd.prog) W U (f.extract k (k + 1)) (by rw [hes]; omega)
        generalize f.extract k (k + 1) = c1 at *
        rcases slKeep_yes hb with ⟨g1, g2⟩ | ⟨g1, g2, g3⟩
        · clear hb hst hU
          go_wp2
          all_goals first
            | exact ⟨⟨k + 1, _, by go_num, rfl, by omega, HS.out.symm⟩, by simp only [intOf]; omega⟩
            | (go_round
               case rel => exact ⟨k + 1, _, by go_num, rfl, by omega, HS.out.symm⟩
               case measure => simp [intOf]; omega)
        · clear hb hst hU
          go_wp2
          all_goals first
            | exact ⟨⟨k + 1, _, by go_num, rfl, by omega, HS.out.symm⟩, by simp only [intOf]; omega⟩
            | (go_round
               case rel => exact ⟨k + 1, _, by go_num, rfl, by omega, HS.out.symm⟩
               case measure => simp [intOf]; omega)
      | false =>
        by_cases hU0 : U.size = 0
        · obtain rfl := slEmpty_of U hU0
          rw [slOne_none hb (by rw [← hU]; rfl), ← hU] at hst
          have HS := Lib.hid hst
          clear hst hU hUs hU0
          rcases slKeep_no hb with ⟨g1, g2, g3, g4⟩ | ⟨g1, g2, g3⟩ | ⟨g1, g2⟩
          · clear hb
            go_wp2
            all_goals first
              | exact ⟨⟨k + 1, _, by go_num, rfl, by omega, HS.out.symm⟩, by simp only [intOf]; omega⟩
              | (go_round
                 case rel => exact ⟨k + 1, _, by go_num, rfl, by omega, HS.out.symm⟩
                 case measure => simp [intOf]; omega)
          · clear hb
            go_wp2
            all_goals first
              | exact ⟨⟨k + 1, _, by go_num, rfl, by omega, HS.out.symm⟩, by simp only [intOf]; omega⟩
              | (go_round
                 case rel => exact ⟨k + 1, _, by go_num, rfl, by omega, HS.out.symm⟩
                 case measure => simp [intOf]; omega)
          · clear hb
            go_wp2
            all_goals first
              | exact ⟨⟨k + 1, _, by go_num, rfl, by omega, HS.out.symm⟩, by simp only [intOf]; omega⟩
              | (go_round
                 case rel => exact ⟨k + 1, _, by go_num, rfl, by omega, HS.out.symm⟩
                 case measure => simp [intOf]; omega)

        · obtain ⟨n, hn⟩ : ∃ n, U.size = n + 1 := ⟨U.size - 1, by omega⟩
          have hm1 : (U.size : Int) - 1 = (n : Int) := by omega
          have hnl : n < U.size := by omega
          have hp0 : 0 < U.size := by omega
          have e1 := toList_ne hp0
          have e2 := toList_empty hp0
          obtain ⟨p, z, hpz⟩ := snoc_of (a := U.data.toList) (by intro e; have := slSize U; rw [e] at this; simp at this; omega)
          have hpl : p.length = n := by have := slSize U; rw [hpz] at this; simp at this; omega
          subst hpl
          have hla := last_at hpz hnl
          have hgl : (slRow (f.data.toList.take k)).getLastD 45 = z := by rw [← hU, hpz, getLastD_snoc]
          by_cases hz : z = 45
          · have hq : ((U[p.length].toNat : Int) == 45) = true := by rw [hla, hz]; rfl
            rw [slOne_none hb (by rw [hgl, hz]), ← hU] at hst
            have HS := Lib.hid hst
            clear hst hU hpz hla hgl hz hU0
            rcases slKeep_no hb with ⟨g1, g2, g3, g4⟩ | ⟨g1, g2, g3⟩ | ⟨g1, g2⟩
            · clear hb
              go_wp2
              all_goals first
                | exact ⟨⟨k + 1, _, by go_num, rfl, by omega, HS.out.symm⟩, by simp only [intOf]; omega⟩
                | (go_round
                   case rel => exact ⟨k + 1, _, by go_num, rfl, by omega, HS.out.symm⟩
                   case measure => simp [intOf]; omega)
            · clear hb
              go_wp2
              all_goals first
                | exact ⟨⟨k + 1, _, by go_num, rfl, by omega, HS.out.symm⟩, by simp only [intOf]; omega⟩
                | (go_round
                   case rel => exact ⟨k + 1, _, by go_num, rfl, by omega, HS.out.symm⟩
                   case measure => simp [intOf]; omega)
            · clear hb
              go_wp2
              all_goals first
                | exact ⟨⟨k + 1, _, by go_num, rfl, by omega, HS.out.symm⟩, by simp only [intOf]; omega⟩
                | (go_round
                   case rel => exact ⟨k + 1, _, by go_num, rfl, by omega, HS.out.symm⟩
                   case measure => simp [intOf]; omega)

          · have hq : ((U[p.length].toNat : Int) == 45) = false := by rw [hla, eq45]; simpa using hz
            rw [slOne_dash2 hb (by rw [hgl]; exact hz), ← hU] at hst
            have hst2 : (U ++ (⟨#[45]⟩ : ByteArray)).data.toList = slRow (f.data.toList.take (k + 1)) := by rw [hst]; simp
            have r1 := fun W => run_string_add_sum (P := Tryd.prog) W U (⟨#[45]⟩ : ByteArray) (by show U.size + 1 ≤ _; omega)
            have HS := Lib.hid hst2.symm
            generalize hT : U ++ (⟨#[45]⟩ : ByteArray) = T1 at *
            clear hst hst2 hU hpz hla hgl hz hU0
            rcases slKeep_no hb with ⟨g1, g2, g3, g4⟩ | ⟨g1, g2, g3⟩ | ⟨g1, g2⟩
            · clear hb
              go_wp2
              all_goals first
                | exact ⟨⟨k + 1, _, by go_num, rfl, by omega, HS.out.symm⟩, by simp only [intOf]; omega⟩
                | (go_round
                   case rel => exact ⟨k + 1, _, by go_num, rfl, by omega, HS.out.symm⟩
                   case measure => simp [intOf]; omega)
            · clear hb
              go_wp2
              all_goals first
                | exact ⟨⟨k + 1, _, by go_num, rfl, by omega, HS.out.symm⟩, by simp only [intOf]; omega⟩
                | (go_round
                   case rel => exact ⟨k + 1, _, by go_num, rfl, by omega, HS.out.symm⟩
                   case measure => simp [intOf]; omega)
            · clear hb
              go_wp2
              all_goals first
                | exact ⟨⟨k + 1, _, by go_num, rfl, by omega, HS.out.symm⟩, by simp only [intOf]; omega⟩
                | (go_round
                   case rel => exact ⟨k + 1, _, by go_num, rfl, by omega, HS.out.symm⟩
                   case measure => simp [intOf]; omega)

    · obtain rfl : k = f.size := by omega
      rw [List.take_of_length_le (by rw [slSize]; exact Nat.le_refl _)] at hU
      have hok : SlOk U.data.toList := by rw [hU]; exact SlOk.row _
      rw [← hU] at HE
      clear hU
      obtain ⟨X, hX, hsl⟩ : ∃ X : ByteArray, X.data.toList = U.data.toList.take 40 ∧ ∀ W, (Instr.slice 9 (.string U) none (some (.int .i64 (min (U.size : Int) 40))) none).run Tryd.prog W = .ok (.string X) W := by
        refine ⟨U.extract 0 (min U.size 40), ?_, fun W => slice_hi U _ (min U.size 40) (by omega) (by omega) W⟩
        rw [ByteArray.data_extract, Array.toList_extract, List.extract_eq_take_drop, List.drop_zero, Nat.sub_zero]
        by_cases h : U.size ≤ 40
        · rw [Nat.min_eq_left h, List.take_of_length_le (by rw [slSize]; exact Nat.le_refl _), List.take_of_length_le (by rw [slSize]; exact h)]
        · rw [Nat.min_eq_right (by omega)]
      have hok4 := hok.take 40
      have hX1 : X.size ≤ 40 := by
        have hXs := slSize X
        rw [hX, List.length_take, slSize] at hXs
        omega
      have hr := HE.out
      rw [← hX] at hr hok4
      unfold slEnd at hr
      have HREL := Lib.hid (⟨X, rfl, hX1, hok4, rfl⟩ : RtRel (slTrim X.data.toList) (.string X))
      generalize slTrim X.data.toList = E at *
      have HR := Lib.hid hr
      clear hr hok hX hok4 HE
      go_wp2_with fail
      clear hsl
      go_loop [4] (fun t => RtRel E t) (fun t => slSz t)
      case atStart => exact HREL.out
      case round =>
        obtain ⟨p, rfl, h1, hok, hE⟩ := hrel
        by_cases h0 : p.size = 0
        · obtain rfl := slEmpty_of p h0
          have hres : res = slNone := by rw [HR.out, if_pos (by rw [← hE]; rfl)]
          subst hres
          clear h0 h1 hok hE
          go_wp2
          go_ret
          exact ⟨rfl, HB1.out⟩
        · obtain ⟨n, hn⟩ : ∃ n, p.size = n + 1 := ⟨p.size - 1, by omega⟩
          have hm1 : (p.size : Int) - 1 = (n : Int) := by omega
          have hnl : n < p.size := by omega
          have hp0 : 0 < p.size := by omega
          have e1 := toList_ne hp0
          have e2 := toList_empty hp0
          rcases trim_step n hn h1 hok hE with ⟨g, hr, hsz⟩ | ⟨g, hr⟩
          · have hb : ((p[n].toNat : Int) == 45) = true := by rw [g]; rfl
            have hs2 := fun W => slice_hi p (n : Int) n rfl (by omega) W
            have HR2 := Lib.hid hr
            clear hr g hE hok h0
            go_wp2
            all_goals first
              | exact ⟨(by obtain ⟨q, e, _, r⟩ := HR2.out; exact ⟨q, e, r⟩), by simp only [slSz_string]; omega⟩
              | (go_round
                 case rel => obtain ⟨q, e, _, r⟩ := HR2.out; exact ⟨q, e, r⟩
                 case measure => simp only [slSz_string]; omega)
          · have hb : ((p[n].toNat : Int) == 45) = false := by rw [eq45]; simpa using g
            have hEn : E ≠ [] := by rintro rfl; rw [hr] at hp0; exact absurd hp0 (by decide)
            have hres : res = E := by rw [HR.out, if_neg hEn]
            have HP := Lib.hid hr
            clear hr g hE hok h0 hEn HR HREL
            subst hres
            go_wp2
            go_ret
            have hpe := HP.out
            subst hpe
            exact ⟨rfl, HB1.out⟩

end Go.Proofs.YthbgcpkgpmlolaaDoor
