/-
  Package target: Dest, Title, Inside: what each answers, in plain words.
-/
import Derived.Test.YtioolcnoiaoflaaDoorTgtF
namespace Go.Proofs.YtioolcnoiaoflaaDoor
open Go.RowKit
set_option linter.unusedSimpArgs false
set_option linter.unusedVariables false

theorem prefix_first {s : ByteArray} {b : UInt8} (h : Lib.hasPrefix s.data.toList [b] = true) : ∃ h0 : 0 < s.size, s[0] = b := by
  have hz := hasPrefix_size h
  have h0 : 0 < s.size := hz
  refine ⟨h0, ?_⟩
  have hl := get_list s 0 h0
  rw [List.drop_zero] at hl
  rw [hl] at h
  have h2 : [b] <+: s[0] :: s.data.toList.drop (0 + 1) := List.isPrefixOf_iff_prefix.1 h
  exact (List.cons_prefix_cons.1 h2).1.symm
theorem take_str (s : ByteArray) (n : Nat) : (s.extract 0 n).data.toList = s.data.toList.take n := by
  rw [part_str, List.drop_zero]
set_option maxHeartbeats 1000000 in
theorem dest_any (s : ByteArray) (w : World) (hn : NamedIs w) (hs : s.size ≤ 1099511627776) :
    Calls Tryd.prog 32 #[.string s] w fun e w' => e = .returned (tib (destL s.data.toList)) ∧ Below w.heap.size w w' := by
  have p1 := fun w => Tryd.strings_HasPrefix s ⟨#[60]⟩ w
  rw [show (⟨#[60]⟩ : ByteArray).data.toList = [60] from rfl] at p1
  cases h1 : Lib.hasPrefix s.data.toList [60] with
  | true =>
    rw [h1] at p1
    obtain ⟨h0, hb⟩ := prefix_first h1
    have cb := between_any s 62 ⟨#[60, 10]⟩ w hn h0 (by rw [hb]; decide) (by decide) (by decide) (by decide) hs
    rw [show (⟨#[60, 10]⟩ : ByteArray).data.toList = [60, 10] from rfl, show (((62 : UInt8).toNat : Nat) : Int) = 62 from rfl] at cb
    have HR := Lib.hid (show destL s.data.toList = btwL 62 [60, 10] s.data.toList from by unfold destL; rw [if_pos h1])
    have P1 := Lib.hid p1
    clear p1 h1 hb hn
    generalize btwL 62 [60, 10] s.data.toList = x at *
    obtain ⟨X, z, k⟩ := x
    unfold tib at cb
    go_enter Tryd.func32, Tryd.ntmps32
    go_wp2_with fail
    refine (P1.out _).mono ?_
    rintro e w' ⟨rfl, rfl⟩
    go_wp2_with fail
    refine cb.mono ?_
    rintro e w1 ⟨rfl, b1⟩
    go_wp2
    go_ret3
    exact ⟨by rw [HR.out]; rfl, b1⟩
  | false =>
    rw [h1] at p1
    have c1 := bare_any s w hs
    have hle := bareL_le s.data.toList
    rw [show s.data.toList.length = s.size from by simp] at hle
    have hsl := slice_hi s (bareL s.data.toList) (bareL s.data.toList) rfl hle
    have cu := fun W hn => unescape_any (s.extract 0 (bareL s.data.toList)) W hn (by rw [ByteArray.size_extract]; omega)
    rw [take_str] at cu
    have HR := Lib.hid (show destL s.data.toList = (unL (s.data.toList.take (bareL s.data.toList)), bareL s.data.toList, decide (0 < bareL s.data.toList)) from by unfold destL; rw [if_neg (by rw [h1]; simp)])
    have P1 := Lib.hid p1
    have CU := Lib.hid cu
    have HN := Lib.hid hn
    clear p1 h1 cu hn
    generalize unL (s.data.toList.take (bareL s.data.toList)) = X at *
    generalize bareL s.data.toList = n at *
    generalize s.extract 0 n = T at *
    go_enter Tryd.func32, Tryd.ntmps32
    go_wp2_with fail
    refine (P1.out _).mono ?_
    rintro e w' ⟨rfl, rfl⟩
    go_wp2_with fail
    refine c1.mono ?_
    rintro e w1 ⟨rfl, b1⟩
    go_wp2_with fail
    refine (CU.out _ (HN.out.below b1)).mono ?_
    rintro e w2 ⟨rfl, b2⟩
    go_wp2
    go_ret3
    exact ⟨by rw [HR.out]; exact ret_sib rfl rfl (by simp), b1.then b2⟩
set_option maxHeartbeats 1000000 in
theorem title_any (s : ByteArray) (w : World) (hn : NamedIs w) (hs : s.size ≤ 1099511627776) :
    Calls Tryd.prog 41 #[.string s] w fun e w' => e = .returned (tib (titleL s.data.toList)) ∧ Below w.heap.size w w' := by
  have p1 := fun w => Tryd.strings_HasPrefix s ⟨#[34]⟩ w
  have p2 := fun w => Tryd.strings_HasPrefix s ⟨#[39]⟩ w
  have p3 := fun w => Tryd.strings_HasPrefix s ⟨#[40]⟩ w
  rw [show (⟨#[34]⟩ : ByteArray).data.toList = [34] from rfl] at p1
  rw [show (⟨#[39]⟩ : ByteArray).data.toList = [39] from rfl] at p2
  rw [show (⟨#[40]⟩ : ByteArray).data.toList = [40] from rfl] at p3
  cases h1 : Lib.hasPrefix s.data.toList [34] with
  | true =>
    rw [h1] at p1
    obtain ⟨h0, hb⟩ := prefix_first h1
    have cb := between_any s 34 ByteArray.empty w hn h0 (by rw [hb]; decide) (by decide) (by decide) (by decide) hs
    rw [show (ByteArray.empty : ByteArray).data.toList = [] from rfl, show (((34 : UInt8).toNat : Nat) : Int) = 34 from rfl] at cb
    have HR := Lib.hid (show titleL s.data.toList = btwL 34 [] s.data.toList from by unfold titleL; rw [if_pos h1])
    have P1 := Lib.hid p1
    clear p1 p2 p3 h1 hb hn
    generalize btwL 34 [] s.data.toList = x at *
    obtain ⟨X, z, k⟩ := x
    unfold tib at cb
    go_enter Tryd.func41, Tryd.ntmps41
    go_wp2_with fail
    refine (P1.out _).mono ?_
    rintro e w' ⟨rfl, rfl⟩
    go_wp2_with fail
    refine cb.mono ?_
    rintro e w1 ⟨rfl, b1⟩
    go_wp2
    go_ret3
    exact ⟨by rw [HR.out]; rfl, b1⟩
  | false =>
    rw [h1] at p1
    cases h2 : Lib.hasPrefix s.data.toList [39] with
    | true =>
      rw [h2] at p2
      obtain ⟨h0, hb⟩ := prefix_first h2
      have cb := between_any s 39 ByteArray.empty w hn h0 (by rw [hb]; decide) (by decide) (by decide) (by decide) hs
      rw [show (ByteArray.empty : ByteArray).data.toList = [] from rfl, show (((39 : UInt8).toNat : Nat) : Int) = 39 from rfl] at cb
      have HR := Lib.hid (show titleL s.data.toList = btwL 39 [] s.data.toList from by unfold titleL; rw [if_neg (by rw [h1]; simp), if_pos h2])
      have P1 := Lib.hid p1
      have P2 := Lib.hid p2
      clear p1 p2 p3 h1 h2 hb hn
      generalize btwL 39 [] s.data.toList = x at *
      obtain ⟨X, z, k⟩ := x
      unfold tib at cb
      go_enter Tryd.func41, Tryd.ntmps41
      go_wp2_with fail
      refine (P1.out _).mono ?_
      rintro e w' ⟨rfl, rfl⟩
      go_wp2_with fail
      refine (P2.out _).mono ?_
      rintro e w' ⟨rfl, rfl⟩
      go_wp2_with fail
      refine cb.mono ?_
      rintro e w1 ⟨rfl, b1⟩
      go_wp2
      go_ret3
      exact ⟨by rw [HR.out]; rfl, b1⟩
    | false =>
      rw [h2] at p2
      cases h3 : Lib.hasPrefix s.data.toList [40] with
      | true =>
        rw [h3] at p3
        obtain ⟨h0, hb⟩ := prefix_first h3
        have cb := between_any s 41 ⟨#[40]⟩ w hn h0 (by rw [hb]; decide) (by decide) (by decide) (by decide) hs
        rw [show (⟨#[40]⟩ : ByteArray).data.toList = [40] from rfl, show (((41 : UInt8).toNat : Nat) : Int) = 41 from rfl] at cb
        have HR := Lib.hid (show titleL s.data.toList = btwL 41 [40] s.data.toList from by unfold titleL; rw [if_neg (by rw [h1]; simp), if_neg (by rw [h2]; simp), if_pos h3])
        have P1 := Lib.hid p1
        have P2 := Lib.hid p2
        have P3 := Lib.hid p3
        clear p1 p2 p3 h1 h2 h3 hb hn
        generalize btwL 41 [40] s.data.toList = x at *
        obtain ⟨X, z, k⟩ := x
        unfold tib at cb
        go_enter Tryd.func41, Tryd.ntmps41
        go_wp2_with fail
        refine (P1.out _).mono ?_
        rintro e w' ⟨rfl, rfl⟩
        go_wp2_with fail
        refine (P2.out _).mono ?_
        rintro e w' ⟨rfl, rfl⟩
        go_wp2_with fail
        refine (P3.out _).mono ?_
        rintro e w' ⟨rfl, rfl⟩
        go_wp2_with fail
        refine cb.mono ?_
        rintro e w1 ⟨rfl, b1⟩
        go_wp2
        go_ret3
        exact ⟨by rw [HR.out]; rfl, b1⟩
      | false =>
        rw [h3] at p3
        have HR := Lib.hid (show titleL s.data.toList = ([], 0, false) from by unfold titleL; rw [if_neg (by rw [h1]; simp), if_neg (by rw [h2]; simp), if_neg (by rw [h3]; simp)])
        have P1 := Lib.hid p1
        have P2 := Lib.hid p2
        have P3 := Lib.hid p3
        clear p1 p2 p3 h1 h2 h3
        go_enter Tryd.func41, Tryd.ntmps41
        go_wp2_with fail
        refine (P1.out _).mono ?_
        rintro e w' ⟨rfl, rfl⟩
        go_wp2_with fail
        refine (P2.out _).mono ?_
        rintro e w' ⟨rfl, rfl⟩
        go_wp2_with fail
        refine (P3.out _).mono ?_
        rintro e w' ⟨rfl, rfl⟩
        go_wp2
        go_ret3
        exact ⟨by rw [HR.out]; rfl, Below.refl _ _⟩

/-! ### Inside -/

end Go.Proofs.YtioolcnoiaoflaaDoor
