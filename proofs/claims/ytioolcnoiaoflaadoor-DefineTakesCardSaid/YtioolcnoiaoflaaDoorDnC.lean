/-
  Package define: Line: what it answers, in plain words.
-/
import Derived.Test.YtioolcnoiaoflaaDoorDnB
import Derived.Test.YtioolcnoiaoflaaDoorDnL
namespace Go.Proofs.YtioolcnoiaoflaaDoor
open Go.RowKit
set_option linter.unusedSimpArgs false
set_option linter.unusedVariables false
set_option maxRecDepth 100000

theorem libcut_le (l sep : List UInt8) : (Lib.cut l sep).1.length ≤ l.length ∧ (Lib.cut l sep).2.1.length ≤ l.length := by
  unfold Lib.cut
  split
  · constructor
    · rw [List.length_take]; exact Nat.min_le_right _ _
    · rw [List.length_drop]; exact Nat.sub_le _ _
  · exact ⟨Nat.le_refl _, by simp⟩
theorem cutD_any (s : ByteArray) (w : World) (hs : s.size < 4294967281) (hm : MaxL w) :
    Calls Tryd.prog 20 #[.string s, .string ⟨#[93, 58]⟩] w fun e w' =>
      e = .returned (.tuple #[.string ⟨(Lib.cut s.data.toList sepD).1.toArray⟩, .string ⟨(Lib.cut s.data.toList sepD).2.1.toArray⟩, .bool (Lib.cut s.data.toList sepD).2.2]) ∧ Below w.heap.size w w' := by
  obtain ⟨m, hm⟩ := hm
  refine (Tryd.strings_Cut s ⟨#[93, 58]⟩ m w hs hm).mono ?_
  rintro e w' ⟨rfl, n, rfl⟩
  exact ⟨rfl, below_drewN' (Below.refl _ _) n⟩
theorem hasP1 (l : List UInt8) (b : UInt8) : Lib.trimPrefix l [b] = if Lib.hasPrefix l [b] then l.drop 1 else l := by
  unfold Lib.trimPrefix
  rfl

set_option maxHeartbeats 8000000 in
theorem dline_prog (s : ByteArray) (w : World) (hv : Elv w) (hs : s.size ≤ 1000000000) :
    Calls Tryd.prog 10 #[.string s] w fun e w' => e = .returned (dfTib (progL s.data.toList)) ∧ Below w.heap.size w w' := by
  have b0 : Below w.heap.size w (w.alloc (.cells #[.string ⟨#[]⟩, .string ⟨#[]⟩, .string ⟨#[]⟩, .string ⟨#[]⟩, .bool false] 29)) := (Below.refl _ w).alloc (Nat.le_refl _) _
  have z0 := dfAt_zero w
  have hs0 := alloc_size w (.cells #[.string ⟨#[]⟩, .string ⟨#[]⟩, .string ⟨#[]⟩, .string ⟨#[]⟩, .bool false] 29)
  have HV := Lib.hid (hv.below b0)
  have HB0 := Lib.hid b0
  have HZ0 := Lib.hid z0
  have p1 := fun w1 => Tryd.strings_CutPrefix s ⟨#[91]⟩ w1
  rw [show (⟨#[91]⟩ : ByteArray).data.toList = [91] from rfl, hasP1] at p1
  clear b0 z0 hv
  cases h1 : Lib.hasPrefix s.data.toList [91] with
  | false =>
    rw [h1] at p1
    rw [if_neg (by simp)] at p1
    have HR := Lib.hid (show progL s.data.toList = (noDfn, false) from by unfold progL; rw [if_neg (by rw [h1]; simp)])
    have P1 := Lib.hid p1
    clear p1 h1
    go_enter Tryd.func10, Tryd.ntmps10
    go_wp2_with fail
    refine (P1.out _).mono ?_
    rintro e w1 ⟨rfl, rfl⟩
    go_wp2
    (try simp only [Exit.inBlock, Exit.then])
    refine bodyPost_ret (v := dfTib (noDfn, false)) ?_ rfl ⟨by rw [HR.out], HB0.out⟩
    exact ret_df rfl (g := w.heap.size) HZ0.out rfl rfl
  | true =>
    rw [h1] at p1
    rw [if_pos rfl] at p1
    have hin : (s.data.toList.drop 1).length ≤ 1000000000 := by rw [List.length_drop, str_len]; omega
    have hq : progL s.data.toList = if (Lib.cut (s.data.toList.drop 1) sepD).2.2 then behindL (Lib.cut (s.data.toList.drop 1) sepD).1 (Lib.cut (s.data.toList.drop 1) sepD).2.1 else (noDfn, false) := by
      unfold progL; rw [if_pos h1]
    have P1 := Lib.hid p1
    clear p1 h1
    generalize s.data.toList.drop 1 = i at *
    have c2 := fun w1 hm => cutD_any ⟨i.toArray⟩ w1 (by rw [str_size]; omega) hm
    rw [show (⟨i.toArray⟩ : ByteArray).data.toList = i from rfl] at c2
    have hle := libcut_le i sepD
    generalize Lib.cut i sepD = c at *
    obtain ⟨name, rest, ok⟩ := c
    simp only at c2 hq hle
    obtain ⟨hl1, hl2⟩ := hle
    have HQ := Lib.hid hq
    have C2 := Lib.hid c2
    clear hq c2
    cases ok with
    | false =>
      go_enter Tryd.func10, Tryd.ntmps10
      go_wp2_with fail
      refine (P1.out _).mono ?_
      rintro e w1 ⟨rfl, rfl⟩
      go_wp2_with fail
      refine (C2.out _ HV.out.ml).mono ?_
      rintro e w2 ⟨rfl, b2⟩
      have HB1 := Lib.hid (HB0.out.then b2)
      have hz1 := HZ0.out.below b2
      obtain ⟨k0, k1, k2, k3, k4, kf⟩ := hz1.cells
      have HS := Lib.hid (hz1.set noDfn)
      have HW := Lib.hid (below_set5 HB1.out (Nat.le_refl _) (.string ⟨#[]⟩) (.string ⟨#[]⟩) (.string ⟨#[]⟩) (.string ⟨#[]⟩) (.bool false))
      clear hz1
      go_wp2
      (try simp only [Exit.inBlock, Exit.then])
      refine bodyPost_ret (v := dfTib (noDfn, false)) ?_ rfl ⟨by rw [HQ.out]; rfl, HW.out⟩
      exact ret_df rfl (g := w.heap.size) HS.out rfl rfl
    | true =>
      have p3 := fun w1 => Tryd.strings_CutPrefix ⟨name.toArray⟩ ⟨#[94]⟩ w1
      rw [show (⟨#[94]⟩ : ByteArray).data.toList = [94] from rfl, hasP1, show (⟨name.toArray⟩ : ByteArray).data.toList = name from rfl] at p3
      have c4 := fun w1 => plain_any ⟨rest.toArray⟩ w1 (by rw [str_size]; omega)
      rw [show (⟨rest.toArray⟩ : ByteArray).data.toList = rest from rfl] at c4
      have hlt := trimG_le rest
      cases h3 : Lib.hasPrefix name [94] with
      | true =>
        rw [h3] at p3
        rw [if_pos rfl] at p3
        have hln : (name.drop 1).length ≤ 1000000000 := by rw [List.length_drop]; omega
        have HR := Lib.hid (show progL s.data.toList = noteL (name.drop 1) (trimG rest) from by rw [HQ.out, if_pos rfl]; unfold behindL; rw [if_pos h3])
        clear HQ h3
        generalize name.drop 1 = nm at *
        generalize trimG rest = t at *
        have c5 := fun w1 => noteOf_any ⟨nm.toArray⟩ ⟨t.toArray⟩ w1 (by rw [str_size]; omega)
        rw [show (⟨nm.toArray⟩ : ByteArray).data.toList = nm from rfl, show (⟨t.toArray⟩ : ByteArray).data.toList = t from rfl] at c5
        generalize noteL nm t = y at *
        obtain ⟨y1, y2⟩ := y
        unfold dfTib dfV at c5
        simp only at c5
        have P3 := Lib.hid p3
        have C4 := Lib.hid c4
        have C5 := Lib.hid c5
        clear p3 c4 c5
        go_enter Tryd.func10, Tryd.ntmps10
        go_wp2_with fail
        refine (P1.out _).mono ?_
        rintro e w1 ⟨rfl, rfl⟩
        go_wp2_with fail
        refine (C2.out _ HV.out.ml).mono ?_
        rintro e w2 ⟨rfl, b2⟩
        go_wp2_with fail
        refine (P3.out _).mono ?_
        rintro e w3 ⟨rfl, rfl⟩
        go_wp2_with fail
        refine (C4.out _).mono ?_
        rintro e w4 ⟨rfl, b4⟩
        go_wp2_with fail
        refine (C5.out _).mono ?_
        rintro e w5 ⟨rfl, b5⟩
        have b6 := (b2.then b4).then b5
        have HB1 := Lib.hid (HB0.out.then b6)
        have hz1 := HZ0.out.below b6
        obtain ⟨k0, k1, k2, k3, k4, kf⟩ := hz1.cells
        have HS := Lib.hid (hz1.set y1)
        have HW := Lib.hid (below_set5 HB1.out (Nat.le_refl _) (.string ⟨y1.nm.toArray⟩) (.string ⟨y1.url.toArray⟩) (.string ⟨y1.ttl.toArray⟩) (.string ⟨y1.txt.toArray⟩) (.bool y1.nt))
        clear hz1 b2 b4 b5 b6
        go_wp2
        (try simp only [Exit.inBlock, Exit.then])
        refine bodyPost_ret (v := dfTib (y1, y2)) ?_ rfl ⟨by rw [HR.out], HW.out⟩
        exact ret_df rfl (g := w.heap.size) HS.out rfl rfl
      | false =>
        rw [h3] at p3
        rw [if_neg (by simp)] at p3
        have HR := Lib.hid (show progL s.data.toList = linkL name (trimG rest) from by rw [HQ.out, if_pos rfl]; unfold behindL; rw [if_neg (by rw [h3]; simp)])
        clear HQ h3
        generalize trimG rest = t at *
        have c5 := fun w1 h => linkOf_any ⟨name.toArray⟩ ⟨t.toArray⟩ w1 h (by rw [str_size]; omega) (by rw [str_size]; omega)
        rw [show (⟨name.toArray⟩ : ByteArray).data.toList = name from rfl, show (⟨t.toArray⟩ : ByteArray).data.toList = t from rfl] at c5
        generalize linkL name t = y at *
        obtain ⟨y1, y2⟩ := y
        unfold dfTib dfV at c5
        simp only at c5
        have P3 := Lib.hid p3
        have C4 := Lib.hid c4
        have C5 := Lib.hid c5
        clear p3 c4 c5
        go_enter Tryd.func10, Tryd.ntmps10
        go_wp2_with fail
        refine (P1.out _).mono ?_
        rintro e w1 ⟨rfl, rfl⟩
        go_wp2_with fail
        refine (C2.out _ HV.out.ml).mono ?_
        rintro e w2 ⟨rfl, b2⟩
        go_wp2_with fail
        refine (P3.out _).mono ?_
        rintro e w3 ⟨rfl, rfl⟩
        go_wp2_with fail
        refine (C4.out _).mono ?_
        rintro e w4 ⟨rfl, b4⟩
        have HV2 := Lib.hid ((HV.out.below b2).below b4)
        go_wp2_with fail
        refine (C5.out _ HV2.out.nm).mono ?_
        rintro e w5 ⟨rfl, b5⟩
        have b6 := (b2.then b4).then b5
        have HB1 := Lib.hid (HB0.out.then b6)
        have hz1 := HZ0.out.below b6
        obtain ⟨k0, k1, k2, k3, k4, kf⟩ := hz1.cells
        have HS := Lib.hid (hz1.set y1)
        have HW := Lib.hid (below_set5 HB1.out (Nat.le_refl _) (.string ⟨y1.nm.toArray⟩) (.string ⟨y1.url.toArray⟩) (.string ⟨y1.ttl.toArray⟩) (.string ⟨y1.txt.toArray⟩) (.bool y1.nt))
        clear hz1 b2 b4 b5 b6
        go_wp2
        (try simp only [Exit.inBlock, Exit.then])
        refine bodyPost_ret (v := dfTib (y1, y2)) ?_ rfl ⟨by rw [HR.out], HW.out⟩
        exact ret_df rfl (g := w.heap.size) HS.out rfl rfl
/-- A line's definition. -/
theorem dline_any (s : ByteArray) (w : World) (hv : Elv w) (hs : s.size ≤ 1000000000) :
    Calls Tryd.prog 10 #[.string s] w fun e w' => e = .returned (dfTib (dlL s.data.toList)) ∧ Below w.heap.size w w' := by
  rw [← progL_is]
  exact dline_prog s w hv hs

end Go.Proofs.YtioolcnoiaoflaaDoor
