/-
  Package define: lastTitle, linkOf: what each answers, in plain words.
-/
import Derived.Test.YtioolcnoiaoflaaDoorDnA
namespace Go.Proofs.YtioolcnoiaoflaaDoor
open Go.RowKit
set_option linter.unusedSimpArgs false
set_option linter.unusedVariables false
set_option maxRecDepth 100000

theorem str_len (s : ByteArray) : s.data.toList.length = s.size := by simp
def sbV (x : List UInt8 × Bool) : Value := .tuple #[.string ⟨x.1.toArray⟩, .bool x.2]

set_option maxHeartbeats 8000000 in
theorem lastTitle_any (s : ByteArray) (w : World) (hn : NamedIs w) (hs : s.size ≤ 1099511627776) :
    Calls Tryd.prog 33 #[.string s] w fun e w' => e = .returned (sbV (lastL s.data.toList)) ∧ Below w.heap.size w w' := by
  by_cases h0 : s.data.toList = []
  · obtain ⟨e1, e2⟩ := emp_yes h0
    have HR := Lib.hid (show lastL s.data.toList = ([], true) from by unfold lastL; rw [if_pos h0])
    clear h0
    go_enter Tryd.func33, Tryd.ntmps33
    go_wp2
    go_ret2
    exact ⟨by rw [HR.out]; rfl, Below.refl _ _⟩
  · obtain ⟨e1, e2⟩ := emp_no h0
    have c1 := fun w1 => plain_any s w1 (by omega)
    have hle := trimG_le s.data.toList
    rw [str_len] at hle
    have hq : lastL s.data.toList = if !(titleL (trimG s.data.toList)).2.2 || decide ((titleL (trimG s.data.toList)).2.1 < (trimG s.data.toList).length) || decide ((trimG s.data.toList).length = s.size) then ([], false)
        else ((titleL (trimG s.data.toList)).1, true) := by
      unfold lastL
      rw [if_neg h0, str_len]
    clear h0
    generalize trimG s.data.toList = T at *
    obtain ⟨X, hX, rfl⟩ := text_of' T
    rw [hX] at c1
    have c2 := fun w1 hn => title_any X w1 hn (by rw [str_len] at hle; omega)
    rw [str_len] at hq
    have HN := Lib.hid hn
    have HQ := Lib.hid hq
    generalize titleL X.data.toList = t at *
    obtain ⟨tt, z, k⟩ := t
    unfold tib at c2
    simp only at c2 hq
    clear hle hX hq hn
    by_cases hk : k = true
    · subst hk
      by_cases h1 : z < X.size
      · have n1 : decide ((z : Int) < (X.size : Int)) = true := by simp; omega
        have n2 : (z : Int) < (X.size : Int) := by omega
        have HR := Lib.hid (show lastL s.data.toList = ([], false) from by rw [HQ.out, if_pos (by simp [h1])])
        clear h1
        go_enter Tryd.func33, Tryd.ntmps33
        go_wp2_with fail
        refine (c1 _).mono ?_
        rintro e w1 ⟨rfl, b1⟩
        go_wp2_with fail
        refine (c2 _ (HN.out.below b1)).mono ?_
        rintro e w2 ⟨rfl, b2⟩
        go_wp2
        go_ret2
        exact ⟨by rw [HR.out]; rfl, b1.then b2⟩
      · have n1 : decide ((z : Int) < (X.size : Int)) = false := by simp; omega
        have n2 : ¬ (z : Int) < (X.size : Int) := by omega
        by_cases h2 : X.size = s.size
        · have n3 : ((X.size : Int) == (s.size : Int)) = true := by simp; omega
          have HR := Lib.hid (show lastL s.data.toList = ([], false) from by rw [HQ.out, if_pos (by simp [h2])])
          clear h1 h2
          go_enter Tryd.func33, Tryd.ntmps33
          go_wp2_with fail
          refine (c1 _).mono ?_
          rintro e w1 ⟨rfl, b1⟩
          go_wp2_with fail
          refine (c2 _ (HN.out.below b1)).mono ?_
          rintro e w2 ⟨rfl, b2⟩
          go_wp2
          go_ret2
          exact ⟨by rw [HR.out]; rfl, b1.then b2⟩
        · have n3 : ((X.size : Int) == (s.size : Int)) = false := by simp; omega
          have HR := Lib.hid (show lastL s.data.toList = (tt, true) from by rw [HQ.out, if_neg (by simp [h2]; omega)])
          clear h1 h2
          go_enter Tryd.func33, Tryd.ntmps33
          go_wp2_with fail
          refine (c1 _).mono ?_
          rintro e w1 ⟨rfl, b1⟩
          go_wp2_with fail
          refine (c2 _ (HN.out.below b1)).mono ?_
          rintro e w2 ⟨rfl, b2⟩
          go_wp2
          go_ret2
          exact ⟨by rw [HR.out]; rfl, b1.then b2⟩
    · obtain rfl : k = false := by simpa using hk
      have HR := Lib.hid (show lastL s.data.toList = ([], false) from by rw [HQ.out, if_pos (by simp)])
      clear hk
      go_enter Tryd.func33, Tryd.ntmps33
      go_wp2_with fail
      refine (c1 _).mono ?_
      rintro e w1 ⟨rfl, b1⟩
      go_wp2_with fail
      refine (c2 _ (HN.out.below b1)).mono ?_
      rintro e w2 ⟨rfl, b2⟩
      go_wp2
      go_ret2
      exact ⟨by rw [HR.out]; rfl, b1.then b2⟩

set_option maxHeartbeats 8000000 in
theorem linkOf_any (s t : ByteArray) (w : World) (hn : NamedIs w) (hs : s.size ≤ 17592186044416) (ht : t.size ≤ 1099511627776) :
    Calls Tryd.prog 23 #[.string s, .string t] w fun e w' => e = .returned (dfTib (linkL s.data.toList t.data.toList)) ∧ Below w.heap.size w w' := by
  have b0 : Below w.heap.size w (w.alloc (.cells #[.string ⟨#[]⟩, .string ⟨#[]⟩, .string ⟨#[]⟩, .string ⟨#[]⟩, .bool false] 29)) := (Below.refl _ w).alloc (Nat.le_refl _) _
  have z0 := dfAt_zero w
  have hs0 := alloc_size w (.cells #[.string ⟨#[]⟩, .string ⟨#[]⟩, .string ⟨#[]⟩, .string ⟨#[]⟩, .bool false] 29)
  have c1 := fun w1 => defName_any s w1 hs
  have c2 := fun w1 h => dest_any t w1 h ht
  have hle := destL_le t.data.toList
  rw [str_len] at hle
  unfold linkL
  generalize dnL s.data.toList = d at *
  obtain ⟨n, ok⟩ := d
  generalize destL t.data.toList = u at *
  obtain ⟨url, m, is⟩ := u
  simp only at c1 c2 hle ⊢
  unfold tib at c2
  simp only at c2
  have hsl := slice_lo t m m rfl hle
  have c3 := fun w1 h => lastTitle_any (t.extract m t.size) w1 h (by rw [ByteArray.size_extract]; omega)
  rw [show (t.extract m t.size).data.toList = t.data.toList.drop m from by rw [part_str, List.take_of_length_le (by rw [str_len]; exact Nat.le_refl _)]] at c3
  have HN := Lib.hid (hn.below b0)
  have HB0 := Lib.hid b0
  have HZ0 := Lib.hid z0
  generalize lastL (t.data.toList.drop m) = l at *
  obtain ⟨ttl, on⟩ := l
  unfold sbV at c3
  simp only at c3 ⊢
  generalize t.extract m t.size = X at *
  have HLE := Lib.hid hle
  have hle2 : (m : Int) ≤ (t.size : Int) := by omega
  clear b0 z0 hn hle
  have step : ∀ (y : Dfn × Bool), y = (if ok && is && on then ((⟨n, url, ttl, [], false⟩ : Dfn), true) else (noDfn, false)) → Calls Tryd.prog 23 #[.string s, .string t] w fun e w' => e = .returned (dfTib y) ∧ Below w.heap.size w w' := by
    intro y hy
    cases ok with
    | false =>
      obtain rfl : y = (noDfn, false) := by rw [hy]; rfl
      clear hy
      go_enter Tryd.func23, Tryd.ntmps23
      go_wp2_with fail
      refine (c1 _).mono ?_
      rintro e w1 ⟨rfl, b1⟩
      have HN1 := Lib.hid (HN.out.below b1)
      go_wp2_with fail
      refine (c2 _ HN1.out).mono ?_
      rintro e w2 ⟨rfl, b2⟩
      have HN2 := Lib.hid (HN1.out.below b2)
      go_wp2_with fail
      refine (c3 _ HN2.out).mono ?_
      rintro e w3 ⟨rfl, b3⟩
      have b4 := (b1.then b2).then b3
      have HB1 := Lib.hid (HB0.out.then b4)
      have hz1 := HZ0.out.below b4
      obtain ⟨k0, k1, k2, k3, k4, kf⟩ := hz1.cells
      have HS := Lib.hid (hz1.set noDfn)
      have HW := Lib.hid (below_set5 HB1.out (Nat.le_refl _) (.string ⟨#[]⟩) (.string ⟨#[]⟩) (.string ⟨#[]⟩) (.string ⟨#[]⟩) (.bool false))
      clear hz1 b1 b2 b3 b4
      go_wp2
      (try simp only [Exit.inBlock, Exit.then])
      refine bodyPost_ret (v := dfTib (noDfn, false)) ?_ rfl ⟨rfl, HW.out⟩
      exact ret_df rfl (g := w.heap.size) HS.out rfl rfl
    | true =>
      cases is with
      | false =>
        obtain rfl : y = (noDfn, false) := by rw [hy]; rfl
        clear hy
        go_enter Tryd.func23, Tryd.ntmps23
        go_wp2_with fail
        refine (c1 _).mono ?_
        rintro e w1 ⟨rfl, b1⟩
        have HN1 := Lib.hid (HN.out.below b1)
        go_wp2_with fail
        refine (c2 _ HN1.out).mono ?_
        rintro e w2 ⟨rfl, b2⟩
        have HN2 := Lib.hid (HN1.out.below b2)
        go_wp2_with fail
        refine (c3 _ HN2.out).mono ?_
        rintro e w3 ⟨rfl, b3⟩
        have b4 := (b1.then b2).then b3
        have HB1 := Lib.hid (HB0.out.then b4)
        have hz1 := HZ0.out.below b4
        obtain ⟨k0, k1, k2, k3, k4, kf⟩ := hz1.cells
        have HS := Lib.hid (hz1.set noDfn)
        have HW := Lib.hid (below_set5 HB1.out (Nat.le_refl _) (.string ⟨#[]⟩) (.string ⟨#[]⟩) (.string ⟨#[]⟩) (.string ⟨#[]⟩) (.bool false))
        clear hz1 b1 b2 b3 b4
        go_wp2
        (try simp only [Exit.inBlock, Exit.then])
        refine bodyPost_ret (v := dfTib (noDfn, false)) ?_ rfl ⟨rfl, HW.out⟩
        exact ret_df rfl (g := w.heap.size) HS.out rfl rfl
      | true =>
        cases on with
        | false =>
          obtain rfl : y = (noDfn, false) := by rw [hy]; rfl
          clear hy
          go_enter Tryd.func23, Tryd.ntmps23
          go_wp2_with fail
          refine (c1 _).mono ?_
          rintro e w1 ⟨rfl, b1⟩
          have HN1 := Lib.hid (HN.out.below b1)
          go_wp2_with fail
          refine (c2 _ HN1.out).mono ?_
          rintro e w2 ⟨rfl, b2⟩
          have HN2 := Lib.hid (HN1.out.below b2)
          go_wp2_with fail
          refine (c3 _ HN2.out).mono ?_
          rintro e w3 ⟨rfl, b3⟩
          have b4 := (b1.then b2).then b3
          have HB1 := Lib.hid (HB0.out.then b4)
          have hz1 := HZ0.out.below b4
          obtain ⟨k0, k1, k2, k3, k4, kf⟩ := hz1.cells
          have HS := Lib.hid (hz1.set noDfn)
          have HW := Lib.hid (below_set5 HB1.out (Nat.le_refl _) (.string ⟨#[]⟩) (.string ⟨#[]⟩) (.string ⟨#[]⟩) (.string ⟨#[]⟩) (.bool false))
          clear hz1 b1 b2 b3 b4
          go_wp2
          (try simp only [Exit.inBlock, Exit.then])
          refine bodyPost_ret (v := dfTib (noDfn, false)) ?_ rfl ⟨rfl, HW.out⟩
          exact ret_df rfl (g := w.heap.size) HS.out rfl rfl
        | true =>
          obtain rfl : y = (⟨n, url, ttl, [], false⟩, true) := by rw [hy]; rfl
          clear hy
          go_enter Tryd.func23, Tryd.ntmps23
          go_wp2_with fail
          refine (c1 _).mono ?_
          rintro e w1 ⟨rfl, b1⟩
          have HN1 := Lib.hid (HN.out.below b1)
          go_wp2_with fail
          refine (c2 _ HN1.out).mono ?_
          rintro e w2 ⟨rfl, b2⟩
          have HN2 := Lib.hid (HN1.out.below b2)
          go_wp2_with fail
          refine (c3 _ HN2.out).mono ?_
          rintro e w3 ⟨rfl, b3⟩
          have b4 := (b1.then b2).then b3
          have HB1 := Lib.hid (HB0.out.then b4)
          have hz1 := HZ0.out.below b4
          obtain ⟨k0, k1, k2, k3, k4, kf⟩ := hz1.cells
          have HS := Lib.hid (hz1.set ⟨n, url, ttl, [], false⟩)
          have HW := Lib.hid (below_set5 HB1.out (Nat.le_refl _) (.string ⟨n.toArray⟩) (.string ⟨url.toArray⟩) (.string ⟨ttl.toArray⟩) (.string ⟨#[]⟩) (.bool false))
          clear hz1 b1 b2 b3 b4
          go_wp2
          (try simp only [Exit.inBlock, Exit.then])
          refine bodyPost_ret (v := dfTib (⟨n, url, ttl, [], false⟩, true)) ?_ rfl ⟨rfl, HW.out⟩
          exact ret_df rfl (g := w.heap.size) HS.out rfl rfl
  exact step _ rfl

end Go.Proofs.YtioolcnoiaoflaaDoor
