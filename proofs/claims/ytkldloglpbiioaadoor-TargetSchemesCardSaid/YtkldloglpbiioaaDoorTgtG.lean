/-
  Package target: Dest, Title, Inside: what each answers, in plain words.
-/
import Derived.Test.YtkldloglpbiioaaDoorTgtF
namespace Go.Proofs.YtkldloglpbiioaaDoor
open Go.RowKit
set_option linter.unusedSimpArgs false
set_option linter.unusedVariables false

theorem prefix_first {s : ByteArray} {b : UInt8} (h : Lib.hasPrefix s.data.toList [b] = true) : ∃ h0 : 0 < s.size, s[0] = b := by
  have hz := hasPrefix_size h
  have h0 : 0 < s.size := hz
  refine ⟨h0, ?_⟩
  have hl := get_list s 0 h0
  rw [List.drop_zero] at hl
  rw [hl] at h
  have h2 : [b] <+: s[0] :: s.data.toList.drop (0 + 1) := List.isPrefixOf_iff_prefix.1 h
  exact (List.cons_prefix_cons.1 h2).1.symm
theorem take_str (s : ByteArray) (n : Nat) : (s.extract 0 n).data.toList = s.data.toList.take n := by
  rw [part_str, List.drop_zero]

set_option maxHeartbeats 1000000 in
theorem dest_any (s : ByteArray) (w : World) (hn : NamedIs w) (hs : s.size ≤ 1099511627776) :
    Calls Tryd.prog 13 #[.string s] w fun e w' => e = .returned (tib (destL s.data.toList)) ∧ Below w.heap.size w w' := by
  have p1 := fun w => Tryd.strings_HasPrefix s ⟨#[60]⟩ w
  rw [show (⟨#[60]⟩ : ByteArray).data.toList = [60] from rfl] at p1
  cases h1 : Lib.hasPrefix s.data.toList [60] with
  | true =>
    rw [h1] at p1
    obtain ⟨h0, hb⟩ := prefix_first h1
    have cb := between_any s 62 ⟨#[60, 10]⟩ w hn h0 (by rw [hb]; decide) (by decide) (by decide) (by decide) hs
    rw [show (⟨#[60, 10]⟩ : ByteArray).data.toList = [60, 10] from rfl, show (((62 : UInt8).toNat : Nat) : Int) = 62 from rfl] at cb
    have HR := Lib.hid (show destL s.data.toList = btwL 62 [60, 10] s.data.toList from by unfold destL; rw [if_pos h1])
    have P1 := Lib.hid p1
    clear p1 h1 hb hn
    generalize btwL 62 [60, 10] s.data.toList = x at *
    obtain ⟨X, z, k⟩ := x
    unfold tib at cb
    go_enter Tryd.func13, Tryd.ntmps13
    go_wp2_with fail
    refine (P1.out _).mono ?_
    rintro e w' ⟨rfl, rfl⟩
    go_wp2_with fail
    refine cb.mono ?_
    rintro e w1 ⟨rfl, b1⟩
    go_wp2
    go_ret3
    exact ⟨by rw [HR.out]; rfl, b1⟩
  | false =>
    rw [h1] at p1
    have c1 := bare_any s w hs
    have hle := bareL_le s.data.toList
    rw [show s.data.toList.length = s.size from by simp] at hle
    have hsl := slice_hi s (bareL s.data.toList) (bareL s.data.toList) rfl hle
    have cu := fun W hn => unescape_any (s.extract 0 (bareL s.data.toList)) W hn (by rw [ByteArray.size_extract]; omega)
    rw [take_str] at cu
    have HR := Lib.hid (show destL s.data.toList = (unL (s.data.toList.take (bareL s.data.toList)), bareL s.data.toList, decide (0 < bareL s.data.toList)) from by unfold destL; rw [if_neg (by rw [h1]; simp)])
    have P1 := Lib.hid p1
    have CU := Lib.hid cu
    have HN := Lib.hid hn
    clear p1 h1 cu hn
    generalize unL (s.data.toList.take (bareL s.data.toList)) = X at *
    generalize bareL s.data.toList = n at *
    generalize s.extract 0 n = T at *
    go_enter Tryd.func13, Tryd.ntmps13
    go_wp2_with fail
    refine (P1.out _).mono ?_
    rintro e w' ⟨rfl, rfl⟩
    go_wp2_with fail
    refine c1.mono ?_
    rintro e w1 ⟨rfl, b1⟩
    go_wp2_with fail
    refine (CU.out _ (HN.out.below b1)).mono ?_
    rintro e w2 ⟨rfl, b2⟩
    go_wp2
    go_ret3
    exact ⟨by rw [HR.out]; exact ret_sib rfl rfl (by simp), b1.then b2⟩

set_option maxHeartbeats 1000000 in
theorem title_any (s : ByteArray) (w : World) (hn : NamedIs w) (hs : s.size ≤ 1099511627776) :
    Calls Tryd.prog 14 #[.string s] w fun e w' => e = .returned (tib (titleL s.data.toList)) ∧ Below w.heap.size w w' := by
  have p1 := fun w => Tryd.strings_HasPrefix s ⟨#[34]⟩ w
  have p2 := fun w => Tryd.strings_HasPrefix s ⟨#[39]⟩ w
  have p3 := fun w => Tryd.strings_HasPrefix s ⟨#[40]⟩ w
  rw [show (⟨#[34]⟩ : ByteArray).data.toList = [34] from rfl] at p1
  rw [show (⟨#[39]⟩ : ByteArray).data.toList = [39] from rfl] at p2
  rw [show (⟨#[40]⟩ : ByteArray).data.toList = [40] from rfl] at p3
  cases h1 : Lib.hasPrefix s.data.toList [34] with
  | true =>
    rw [h1] at p1
    obtain ⟨h0, hb⟩ := prefix_first h1
    have cb := between_any s 34 ByteArray.empty w hn h0 (by rw [hb]; decide) (by decide) (by decide) (by decide) hs
    rw [show (ByteArray.empty : ByteArray).data.toList = [] from rfl, show (((34 : UInt8).toNat : Nat) : Int) = 34 from rfl] at cb
    have HR := Lib.hid (show titleL s.data.toList = btwL 34 [] s.data.toList from by unfold titleL; rw [if_pos h1])
    have P1 := Lib.hid p1
    clear p1 p2 p3 h1 hb hn
    generalize btwL 34 [] s.data.toList = x at *
    obtain ⟨X, z, k⟩ := x
    unfold tib at cb
    go_enter Tryd.func14, Tryd.ntmps14
    go_wp2_with fail
    refine (P1.out _).mono ?_
    rintro e w' ⟨rfl, rfl⟩
    go_wp2_with fail
    refine cb.mono ?_
    rintro e w1 ⟨rfl, b1⟩
    go_wp2
    go_ret3
    exact ⟨by rw [HR.out]; rfl, b1⟩
  | false =>
    rw [h1] at p1
    cases h2 : Lib.hasPrefix s.data.toList [39] with
    | true =>
      rw [h2] at p2
      obtain ⟨h0, hb⟩ := prefix_first h2
      have cb := between_any s 39 ByteArray.empty w hn h0 (by rw [hb]; decide) (by decide) (by decide) (by decide) hs
      rw [show (ByteArray.empty : ByteArray).data.toList = [] from rfl, show (((39 : UInt8).toNat : Nat) : Int) = 39 from rfl] at cb
      have HR := Lib.hid (show titleL s.data.toList = btwL 39 [] s.data.toList from by unfold titleL; rw [if_neg (by rw [h1]; simp), if_pos h2])
      have P1 := Lib.hid p1
      have P2 := Lib.hid p2
      clear p1 p2 p3 h1 h2 hb hn
      generalize btwL 39 [] s.data.toList = x at *
      obtain ⟨X, z, k⟩ := x
      unfold tib at cb
      go_enter Tryd.func14, Tryd.ntmps14
      go_wp2_with fail
      refine (P1.out _).mono ?_
      rintro e w' ⟨rfl, rfl⟩
      go_wp2_with fail
      refine (P2.out _).mono ?_
      rintro e w' ⟨rfl, rfl⟩
      go_wp2_with fail
      refine cb.mono ?_
      rintro e w1 ⟨rfl, b1⟩
      go_wp2
      go_ret3
      exact ⟨by rw [HR.out]; rfl, b1⟩
    | false =>
      rw [h2] at p2
      cases h3 : Lib.hasPrefix s.data.toList [40] with
      | true =>
        rw [h3] at p3
        obtain ⟨h0, hb⟩ := prefix_first h3
        have cb := between_any s 41 ⟨#[40]⟩ w hn h0 (by rw [hb]; decide) (by decide) (by decide) (by decide) hs
        rw [show (⟨#[40]⟩ : ByteArray).data.toList = [40] from rfl, show (((41 : UInt8).toNat : Nat) : Int) = 41 from rfl] at cb
        have HR := Lib.hid (show titleL s.data.toList = btwL 41 [40] s.data.toList from by unfold titleL; rw [if_neg (by rw [h1]; simp), if_neg (by rw [h2]; simp), if_pos h3])
        have P1 := Lib.hid p1
        have P2 := Lib.hid p2
        have P3 := Lib.hid p3
        clear p1 p2 p3 h1 h2 h3 hb hn
        generalize btwL 41 [40] s.data.toList = x at *
        obtain ⟨X, z, k⟩ := x
        unfold tib at cb
        go_enter Tryd.func14, Tryd.ntmps14
        go_wp2_with fail
        refine (P1.out _).mono ?_
        rintro e w' ⟨rfl, rfl⟩
        go_wp2_with fail
        refine (P2.out _).mono ?_
        rintro e w' ⟨rfl, rfl⟩
        go_wp2_with fail
        refine (P3.out _).mono ?_
        rintro e w' ⟨rfl, rfl⟩
        go_wp2_with fail
        refine cb.mono ?_
        rintro e w1 ⟨rfl, b1⟩
        go_wp2
        go_ret3
        exact ⟨by rw [HR.out]; rfl, b1⟩
      | false =>
        rw [h3] at p3
        have HR := Lib.hid (show titleL s.data.toList = ([], 0, false) from by unfold titleL; rw [if_neg (by rw [h1]; simp), if_neg (by rw [h2]; simp), if_neg (by rw [h3]; simp)])
        have P1 := Lib.hid p1
        have P2 := Lib.hid p2
        have P3 := Lib.hid p3
        clear p1 p2 p3 h1 h2 h3
        go_enter Tryd.func14, Tryd.ntmps14
        go_wp2_with fail
        refine (P1.out _).mono ?_
        rintro e w' ⟨rfl, rfl⟩
        go_wp2_with fail
        refine (P2.out _).mono ?_
        rintro e w' ⟨rfl, rfl⟩
        go_wp2_with fail
        refine (P3.out _).mono ?_
        rintro e w' ⟨rfl, rfl⟩
        go_wp2
        go_ret3
        exact ⟨by rw [HR.out]; rfl, Below.refl _ _⟩

/-! ### Inside -/
def ttib (x : List UInt8 × List UInt8 × Nat × Bool) : Value := .tuple #[.string ⟨x.1.toArray⟩, .string ⟨x.2.1.toArray⟩, .int .i64 x.2.2.1, .bool x.2.2.2]

set_option maxHeartbeats 2000000 in
set_option maxRecDepth 100000 in
theorem inside_any (s : ByteArray) (w : World) (hn : NamedIs w) (hs : s.size ≤ 1099511627776) :
    Calls Tryd.prog 12 #[.string s] w fun e w' => e = .returned (ttib (insideL s.data.toList)) ∧ Below w.heap.size w w' := by
  have HLL := Lib.hid (show s.data.toList.length = s.size from by simp)
  have p1 := fun w => Tryd.strings_HasPrefix s ⟨#[40]⟩ w
  rw [show (⟨#[40]⟩ : ByteArray).data.toList = [40] from rfl] at p1
  cases h1 : Lib.hasPrefix s.data.toList [40] with
  | false =>
    rw [h1] at p1
    have HR := Lib.hid (show insideL s.data.toList = ([], [], 0, false) from by unfold insideL; rw [if_neg (by rw [h1]; simp)])
    have P1 := Lib.hid p1
    clear p1 h1 hn
    go_enter Tryd.func12, Tryd.ntmps12
    go_wp2_with fail
    refine (P1.out _).mono ?_
    rintro e w' ⟨rfl, rfl⟩
    go_wp2
    refine bodyPost_ret (results_tmp4 rfl _ _ _) rfl ?_
    exact ⟨by rw [HR.out]; rfl, Below.refl _ _⟩
  | true =>
    rw [h1] at p1
    obtain ⟨h0, _⟩ := prefix_first h1
    have HR := Lib.hid (show insideL s.data.toList = insL2 s.data.toList (destL (s.data.toList.drop (behL s.data.toList 1))).1 (behL s.data.toList (behL s.data.toList 1 + (destL (s.data.toList.drop (behL s.data.toList 1))).2.1)) from by unfold insideL; rw [if_pos h1])
    have c1 := behind_any s 1 w (by omega) hs
    rw [show ((1 : Nat) : Int) = 1 from rfl] at c1
    have k1 := behL_le s.data.toList 1 (by rw [HLL.out]; omega)
    rw [HLL.out] at k1
    generalize behL s.data.toList 1 = a1 at *
    have hsl1 := slice_lo s a1 a1 rfl k1.2
    have c2 := fun W hn => dest_any (s.extract a1 s.size) W hn (by rw [ext_size]; omega)
    rw [drop_ext] at c2
    have k2 := destL_le (s.data.toList.drop a1)
    rw [List.length_drop, HLL.out] at k2
    generalize destL (s.data.toList.drop a1) = x at *
    obtain ⟨U, z, u⟩ := x
    unfold tib at c2
    simp only at c2 k2 HR
    have c3 := fun W => behind_any s (a1 + z) W (by omega) hs
    have k3 := behL_le s.data.toList (a1 + z) (by rw [HLL.out]; omega)
    rw [HLL.out] at k3
    generalize behL s.data.toList (a1 + z) = a2 at *
    have hix := index_str s ((a2 : Int) - 1) (a2 - 1) (by omega) (by omega)
    have c4 := fun W => blank_any s[a2 - 1].toNat W
    have hbt : s[a2 - 1].toNat < 256 := s[a2 - 1].toNat_lt
    have HG := Lib.hid (getD_str s (a2 - 1) (by omega))
    have P1 := Lib.hid p1
    have HN := Lib.hid hn
    have C2 := Lib.hid c2
    rw [show ((a1 + z : Nat) : Int) = (a1 : Int) + (z : Int) from by omega] at c3
    have C3 := Lib.hid c3
    clear p1 h1 hn c2 c3
    cases hb : blkB s[a2 - 1].toNat with
    | false =>
      rw [hb] at c4
      have C4 := Lib.hid c4
      have hsl2 := slice_lo s a2 a2 rfl k3.2
      have p2 := fun w => Tryd.strings_HasPrefix (s.extract a2 s.size) ⟨#[41]⟩ w
      rw [show (⟨#[41]⟩ : ByteArray).data.toList = [41] from rfl, drop_ext] at p2
      have HR2 := Lib.hid (show insideL s.data.toList = shutL s.data.toList U [] a2 from by rw [HR.out]; unfold insL2; rw [HG.out, if_neg (by rw [hb]; simp)])
      clear HR HG hb c4
      generalize s[a2 - 1] = b at *
      cases h2 : Lib.hasPrefix (s.data.toList.drop a2) [41] with
      | false =>
        rw [h2] at p2
        have HR3 := Lib.hid (show insideL s.data.toList = ([], [], 0, false) from by rw [HR2.out]; unfold shutL; rw [if_neg (by rw [h2]; simp)])
        have P2 := Lib.hid p2
        clear HR2 h2 p2
        go_enter Tryd.func12, Tryd.ntmps12
        go_wp2_with fail
        refine (P1.out _).mono ?_
        rintro e w' ⟨rfl, rfl⟩
        go_wp2_with fail
        refine c1.mono ?_
        rintro e w1 ⟨rfl, b1⟩
        go_wp2_with fail
        refine (C2.out _ (HN.out.below b1)).mono ?_
        rintro e w2 ⟨rfl, b2⟩
        have q2 := b1.then b2
        go_wp2_with fail
        refine (C3.out _).mono ?_
        rintro e w3 ⟨rfl, b3⟩
        have q3 := q2.then b3
        go_wp2_with fail
        refine (C4.out _).mono ?_
        rintro e w' ⟨rfl, rfl⟩
        go_wp2_with fail
        refine (P2.out _).mono ?_
        rintro e w' ⟨rfl, rfl⟩
        go_wp2
        refine bodyPost_ret (results_tmp4 rfl _ _ _) rfl ?_
        exact ⟨by rw [HR3.out]; rfl, q3⟩
      | true =>
        rw [h2] at p2
        have HR3 := Lib.hid (show insideL s.data.toList = (U, [], a2 + 1, true) from by rw [HR2.out]; unfold shutL; rw [if_pos h2])
        have P2 := Lib.hid p2
        clear HR2 h2 p2
        go_enter Tryd.func12, Tryd.ntmps12
        go_wp2_with fail
        refine (P1.out _).mono ?_
        rintro e w' ⟨rfl, rfl⟩
        go_wp2_with fail
        refine c1.mono ?_
        rintro e w1 ⟨rfl, b1⟩
        go_wp2_with fail
        refine (C2.out _ (HN.out.below b1)).mono ?_
        rintro e w2 ⟨rfl, b2⟩
        have q2 := b1.then b2
        go_wp2_with fail
        refine (C3.out _).mono ?_
        rintro e w3 ⟨rfl, b3⟩
        have q3 := q2.then b3
        go_wp2_with fail
        refine (C4.out _).mono ?_
        rintro e w' ⟨rfl, rfl⟩
        go_wp2_with fail
        refine (P2.out _).mono ?_
        rintro e w' ⟨rfl, rfl⟩
        go_wp2
        refine bodyPost_ret (results_tmp4 rfl _ _ _) rfl ?_
        exact ⟨by rw [HR3.out]; rfl, q3⟩
    | true =>
      rw [hb] at c4
      have C4 := Lib.hid c4
      have hsl2 := slice_lo s a2 a2 rfl k3.2
      have c5 := fun W hn => title_any (s.extract a2 s.size) W hn (by rw [ext_size]; omega)
      rw [drop_ext] at c5
      have k5 := titleL_le (s.data.toList.drop a2)
      rw [List.length_drop, HLL.out] at k5
      have HR2 := Lib.hid (show insideL s.data.toList = shutL s.data.toList U (titleL (s.data.toList.drop a2)).1 (behL s.data.toList (a2 + (titleL (s.data.toList.drop a2)).2.1)) from by rw [HR.out]; unfold insL2; rw [HG.out, if_pos hb])
      clear HR HG hb c4
      generalize s[a2 - 1] = b at *
      generalize titleL (s.data.toList.drop a2) = y at *
      obtain ⟨T, z2, u2⟩ := y
      unfold tib at c5
      simp only at c5 k5 HR2
      have C5 := Lib.hid c5
      clear c5
      have c6 := fun W => behind_any s (a2 + z2) W (by omega) hs
      have k6 := behL_le s.data.toList (a2 + z2) (by rw [HLL.out]; omega)
      rw [HLL.out] at k6
      generalize behL s.data.toList (a2 + z2) = a3 at *
      rw [show ((a2 + z2 : Nat) : Int) = (a2 : Int) + (z2 : Int) from by omega] at c6
      have C6 := Lib.hid c6
      clear c6
      have hsl3 := slice_lo s a3 a3 rfl k6.2
      have p2 := fun w => Tryd.strings_HasPrefix (s.extract a3 s.size) ⟨#[41]⟩ w
      rw [show (⟨#[41]⟩ : ByteArray).data.toList = [41] from rfl, drop_ext] at p2
      cases h2 : Lib.hasPrefix (s.data.toList.drop a3) [41] with
      | false =>
        rw [h2] at p2
        have HR3 := Lib.hid (show insideL s.data.toList = ([], [], 0, false) from by rw [HR2.out]; unfold shutL; rw [if_neg (by rw [h2]; simp)])
        have P2 := Lib.hid p2
        clear HR2 h2 p2
        go_enter Tryd.func12, Tryd.ntmps12
        go_wp2_with fail
        refine (P1.out _).mono ?_
        rintro e w' ⟨rfl, rfl⟩
        go_wp2_with fail
        refine c1.mono ?_
        rintro e w1 ⟨rfl, b1⟩
        go_wp2_with fail
        refine (C2.out _ (HN.out.below b1)).mono ?_
        rintro e w2 ⟨rfl, b2⟩
        have q2 := b1.then b2
        go_wp2_with fail
        refine (C3.out _).mono ?_
        rintro e w3 ⟨rfl, b3⟩
        have q3 := q2.then b3
        go_wp2_with fail
        refine (C4.out _).mono ?_
        rintro e w' ⟨rfl, rfl⟩
        go_wp2_with fail
        refine (C5.out _ (HN.out.below q3)).mono ?_
        rintro e w4 ⟨rfl, b4⟩
        have q4 := q3.then b4
        go_wp2_with fail
        refine (C6.out _).mono ?_
        rintro e w5 ⟨rfl, b5⟩
        have q5 := q4.then b5
        go_wp2_with fail
        refine (P2.out _).mono ?_
        rintro e w' ⟨rfl, rfl⟩
        go_wp2
        refine bodyPost_ret (results_tmp4 rfl _ _ _) rfl ?_
        exact ⟨by rw [HR3.out]; rfl, q5⟩
      | true =>
        rw [h2] at p2
        have HR3 := Lib.hid (show insideL s.data.toList = (U, T, a3 + 1, true) from by rw [HR2.out]; unfold shutL; rw [if_pos h2])
        have P2 := Lib.hid p2
        clear HR2 h2 p2
        go_enter Tryd.func12, Tryd.ntmps12
        go_wp2_with fail
        refine (P1.out _).mono ?_
        rintro e w' ⟨rfl, rfl⟩
        go_wp2_with fail
        refine c1.mono ?_
        rintro e w1 ⟨rfl, b1⟩
        go_wp2_with fail
        refine (C2.out _ (HN.out.below b1)).mono ?_
        rintro e w2 ⟨rfl, b2⟩
        have q2 := b1.then b2
        go_wp2_with fail
        refine (C3.out _).mono ?_
        rintro e w3 ⟨rfl, b3⟩
        have q3 := q2.then b3
        go_wp2_with fail
        refine (C4.out _).mono ?_
        rintro e w' ⟨rfl, rfl⟩
        go_wp2_with fail
        refine (C5.out _ (HN.out.below q3)).mono ?_
        rintro e w4 ⟨rfl, b4⟩
        have q4 := q3.then b4
        go_wp2_with fail
        refine (C6.out _).mono ?_
        rintro e w5 ⟨rfl, b5⟩
        have q5 := q4.then b5
        go_wp2_with fail
        refine (P2.out _).mono ?_
        rintro e w' ⟨rfl, rfl⟩
        go_wp2
        refine bodyPost_ret (results_tmp4 rfl _ _ _) rfl ?_
        exact ⟨by rw [HR3.out]; rfl, q5⟩

end Go.Proofs.YtkldloglpbiioaaDoor
