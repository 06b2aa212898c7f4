/-
  Package block: first, all, Parse: the blocks of lines.
-/
import Derived.Test.YtoleoigpijgboaaDoorBlkH
namespace Go.Proofs.YtoleoigpijgboaaDoor
open Go.RowKit
set_option linter.unusedSimpArgs false
set_option linter.unusedVariables false
set_option maxRecDepth 100000

theorem firstL_blank (d : Int) (q i : List (List UInt8) → List Blk) {s : List UInt8} {r : List (List UInt8)} (h : s.all isGap = true) : firstL d q i (s :: r) = ([], 1) := by
  unfold firstL; rw [List.headD_cons, if_pos h]
theorem firstL_leaf (d : Int) (q i : List (List UInt8) → List Blk) {s : List UInt8} {r : List (List UInt8)} (h : s.all isGap = false) (h1 : 0 < (leafL (s :: r)).2) : firstL d q i (s :: r) = ([{ (leafL (s :: r)).1 with depth := d }], (leafL (s :: r)).2) := by
  unfold firstL; rw [List.headD_cons, if_neg (by rw [h]; simp), if_pos h1]
theorem firstL_quote (d : Int) (q i : List (List UInt8) → List Blk) {s : List UInt8} {r : List (List UInt8)} (h : s.all isGap = false) (h1 : (leafL (s :: r)).2 = 0) (h2 : beginsQ d s = true) : firstL d q i (s :: r) = (⟨3, d, 0, false, [], []⟩ :: q (quotedL (s :: r)), (quotedL (s :: r)).length) := by
  unfold firstL; rw [List.headD_cons, if_neg (by rw [h]; simp), if_neg (by omega), if_pos h2]
theorem firstL_list (d : Int) (q i : List (List UInt8) → List Blk) {s : List UInt8} {r : List (List UInt8)} (h : s.all isGap = false) (h1 : (leafL (s :: r)).2 = 0) (h2 : beginsQ d s = false) (h3 : beginsI d s = true) : firstL d q i (s :: r) = listL d i (s :: r) := by
  unfold firstL; rw [List.headD_cons, if_neg (by rw [h]; simp), if_neg (by omega), if_neg (by rw [h2]; simp), if_pos h3]
theorem firstL_raw (d : Int) (q i : List (List UInt8) → List Blk) {s : List UInt8} {r : List (List UInt8)} (h : s.all isGap = false) (h1 : (leafL (s :: r)).2 = 0) (h2 : beginsQ d s = false) (h3 : beginsI d s = false) (h4 : mkHtml s = true) : firstL d q i (s :: r) = ([{ (rawL (s :: r)).1 with depth := d }], (rawL (s :: r)).2) := by
  unfold firstL; rw [List.headD_cons, if_neg (by rw [h]; simp), if_neg (by omega), if_neg (by rw [h2]; simp), if_neg (by rw [h3]; simp), if_pos h4]
theorem firstL_para (d : Int) (q i : List (List UInt8) → List Blk) {s : List UInt8} {r : List (List UInt8)} (h : s.all isGap = false) (h1 : (leafL (s :: r)).2 = 0) (h2 : beginsQ d s = false) (h3 : beginsI d s = false) (h4 : mkHtml s = false) : firstL d q i (s :: r) = ([{ (paraL d (s :: r)).1 with depth := d }], (paraL d (s :: r)).2) := by
  unfold firstL; rw [List.headD_cons, if_neg (by rw [h]; simp), if_neg (by omega), if_neg (by rw [h2]; simp), if_neg (by rw [h3]; simp), if_neg (by rw [h4]; simp)]

theorem Lns.head {B : Nat} {w : World} {b9 off cap : Nat} {s : List UInt8} {r : List (List UInt8)} (h : Lns B w (some ⟨b9, off, none⟩) cap (s :: r)) : w.cell? ⟨b9, off, none⟩ = some (.string ⟨s.toArray⟩) := by
  obtain ⟨b', off', e, _, hc⟩ := h.row.cellAt (k := 0) (by simp)
  cases e
  exact hc

set_option maxHeartbeats 16000000 in
theorem first_core (d : Int) (hd0 : 0 ≤ d) (hd : d ≤ 100) (q i : List (List UInt8) → List Blk) (K : Nat) (hK : K ≤ 1000) (hq : d < 12 → FunOk (d + 1) q K) (hi : d < 11 → FunOk (d + 2) i K) (hiK : ∀ l, (i l).length ≤ K * l.length) (B b : Nat) (v : Value) (L : List Blk) (b9 off cap : Nat) (s : List UInt8) (r : List (List UInt8)) (w : World) (hB : B ≤ w.heap.size) (h : FinIs w B b v L) (hl : Lns B w (some ⟨b9, off, none⟩) cap (s :: r)) (hf : Few (s :: r))
    (hn : L.length + (K + 2) * (r.length + 1) ≤ 50000000) :
    Calls Tryd.prog 28 #[.pointer (some ⟨b, 0, none⟩), .int .i64 d, .slice (some ⟨b9, off, none⟩) (r.length + 1) cap] w fun e w' => e = .returned (.int .i64 (firstL d q i (s :: r)).2) ∧ (∃ v', FinIs w' B b v' (L ++ (firstL d q i (s :: r)).1)) ∧ Kpt B w w' := by
  have hcl := hl.row.strs_le
  have hlen := hf.len
  rw [List.length_cons] at hcl hlen
  have hLn : L.length ≤ 50000000 := by omega
  obtain ⟨b9', off', hA, hb9, hcell⟩ := hl.row.cellAt (k := 0) (by simp)
  cases hA
  rw [show (s :: r)[0] = s from rfl, Nat.add_zero] at hcell
  have hsz := hf.size (k := 0) (by simp)
  rw [show (s :: r)[0] = s from rfl] at hsz
  have cb := blank_any ⟨s.toArray⟩ w (by rw [str_size]; omega)
  have cq := fun W => beginsQ_any d ⟨s.toArray⟩ W (by rw [str_size]; omega)
  have cli := fun W => beginsI_any d ⟨s.toArray⟩ W (by rw [str_size]; omega)
  have ch := fun W => mkHtml_any ⟨s.toArray⟩ W (by rw [str_size]; omega)
  rw [show (⟨s.toArray⟩ : ByteArray).data.toList = s from rfl] at cb cq cli ch
  have HQ := Lib.hid hq
  have HI := Lib.hid hi
  have HIK := Lib.hid hiK
  have HF := Lib.hid hf
  have HL := Lib.hid hl
  have HH := Lib.hid h
  have HNN := Lib.hid hn
  have HCQ := Lib.hid cq
  have HCL := Lib.hid cli
  have HCH := Lib.hid ch
  have HC := Lib.hid hcell
  obtain ⟨P, hP⟩ : ∃ P, firstL d q i (s :: r) = P := ⟨_, rfl⟩
  rw [hP]
  have HP := Lib.hid hP
  clear hP h hl hf hq hi hiK hn cq cli ch hsz
  cases hbl : s.all isGap with
  | true =>
    rw [hbl] at cb
    have HE := Lib.hid (HP.out.symm.trans (firstL_blank d q i hbl))
    clear hbl
    go_enter Tryd.func28, Tryd.ntmps28
    go_wp2_with fail
    refine cb.mono ?_
    rintro e w1 ⟨rfl, b1⟩
    have HK1 := Lib.hid (Kpt.of b1 hB)
    have HF1 := Lib.hid (HH.out.below b1)
    clear b1 hcell cb
    go_wp2
    go_ret
    exact ⟨by rw [HE.out]; rfl, ⟨v, by rw [HE.out, List.append_nil]; exact HF1.out⟩, HK1.out⟩
  | false =>
  rw [hbl] at cb
  have HBL := Lib.hid hbl
  clear hbl
  have cl := fun W h => leaf_any (some ⟨b9, off, none⟩) cap s r W h HF.out
  generalize hI : leafL (s :: r) = I at *
  obtain ⟨⟨xk, xd, xn, xt, xs, xi⟩, kk⟩ := I
  simp only [blkV] at cl
  have HLeaf := Lib.hid hI
  clear hI
  by_cases hk0 : 0 < kk
  · have HE := Lib.hid (HP.out.symm.trans (firstL_leaf d q i HBL.out (by rw [HLeaf.out]; exact hk0)))
    have f1 : decide ((0 : Int) < (kk : Int)) = true := by simp; omega
    have HK0 := Lib.hid hk0
    clear hk0
    go_enter Tryd.func28, Tryd.ntmps28
    go_wp2_with fail
    refine cb.mono ?_
    rintro e w1 ⟨rfl, b1⟩
    have hs1 := b1.size
    have HK1 := Lib.hid (Kpt.of b1 hB)
    have HF1 := Lib.hid (HH.out.below b1)
    clear b1 hcell cb
    go_wp2_with fail
    refine (cl _ (HL.out.kept HK1.out).row).mono ?_
    rintro e w2 ⟨rfl, b2⟩
    have hs2 := b2.size
    have hf2 := HF1.out.below b2
    have HK2 := Lib.hid (HK1.out.trans (Kpt.of b2 (by omega)))
    clear b2 cl
    have ba : Below w2.heap.size w2 (w2.alloc (.cells #[.int .i64 xk, .int .i64 xd, .int .i64 xn, .bool xt, .string ⟨xs.toArray⟩, .string ⟨xi.toArray⟩] 28)) := (Below.refl _ w2).alloc (Nat.le_refl _) _
    have hsa := alloc_size w2 (.cells #[.int .i64 xk, .int .i64 xd, .int .i64 xn, .bool xt, .string ⟨xs.toArray⟩, .string ⟨xi.toArray⟩] 28)
    have cp := put_any B b v L d ⟨xk, xd, xn, xt, xs, xi⟩ _ (by rw [hsa]; omega) (hf2.below ba) (by omega)
    simp only [blkV] at cp
    have HKa := Lib.hid (HK2.out.trans (Kpt.of ba (by omega)))
    clear ba hf2 hsa
    go_wp2_with fail
    refine cp.mono ?_
    rintro e w3 ⟨rfl, v3, hf3, hk3⟩
    have HF3 := Lib.hid hf3
    have HK3 := Lib.hid (HKa.out.trans hk3)
    clear hf3 hk3 cp
    go_wp2
    go_ret
    exact ⟨by rw [HE.out, HLeaf.out]; rfl, ⟨v3, by rw [HE.out, HLeaf.out]; exact HF3.out⟩, HK3.out⟩
  · have HK0 := Lib.hid (show (leafL (s :: r)).2 = 0 from by rw [HLeaf.out]; simp only; omega)
    obtain rfl : kk = 0 := by omega
    clear hk0
    have cq := HCQ.out
    have cli := HCL.out
    have ch := HCH.out
    cases hq2 : beginsQ d s with
    | true =>
      rw [hq2] at cq
      have HE := Lib.hid (HP.out.symm.trans (firstL_quote d q i HBL.out HK0.out hq2))
      have hd12 : d < 12 := by
        simp only [beginsQ, Bool.and_eq_true, decide_eq_true_eq] at hq2
        exact hq2.2
      clear hq2 cli ch
      have hql := quotedL_le (s :: r)
      rw [List.length_cons] at hql
      have HQB := Lib.hid (show K * (quotedL (s :: r)).length + 1 ≤ (K + 2) * (r.length + 1) from by
        have h1 := Nat.mul_le_mul_left K hql
        rw [Nat.add_mul]
        omega)
      have f1 : decide ((0 : Int) < 0) = false := rfl
      go_enter Tryd.func28, Tryd.ntmps28
      go_wp2_with fail
      refine cb.mono ?_
      rintro e w1 ⟨rfl, b1⟩
      have hs1 := b1.size
      have HK1 := Lib.hid (Kpt.of b1 hB)
      have HF1 := Lib.hid (HH.out.below b1)
      clear b1 hcell cb
      go_wp2_with fail
      refine (cl _ (HL.out.kept HK1.out).row).mono ?_
      rintro e w2 ⟨rfl, b2⟩
      have hs2 := b2.size
      have HF2 := Lib.hid (HF1.out.below b2)
      have HK2 := Lib.hid (HK1.out.trans (Kpt.of b2 (by omega)))
      have ba : Below w2.heap.size w2 (w2.alloc (.cells #[.int .i64 xk, .int .i64 xd, .int .i64 xn, .bool xt, .string ⟨xs.toArray⟩, .string ⟨xi.toArray⟩] 28)) := (Below.refl _ w2).alloc (Nat.le_refl _) _
      have hza : BlkAt (w2.alloc (.cells #[.int .i64 xk, .int .i64 xd, .int .i64 xn, .bool xt, .string ⟨xs.toArray⟩, .string ⟨xi.toArray⟩] 28)) w2.heap.size ⟨xk, xd, xn, xt, xs, xi⟩ := heap_alloc_new w2 _
      have HBa := Lib.hid ba
      have HZa := Lib.hid hza
      have hsa := alloc_size w2 (.cells #[.int .i64 xk, .int .i64 xd, .int .i64 xn, .bool xt, .string ⟨xs.toArray⟩, .string ⟨xi.toArray⟩] 28)
      have hcell3 := (HL.out.kept (HK2.out.trans (Kpt.of ba (by omega)))).head
      clear b2 cl ba hza
      go_wp2_with fail
      refine (cq _).mono ?_
      rintro e w4 ⟨rfl, b4⟩
      have HB4 := Lib.hid (HBa.out.trans (b4.mono (by omega)))
      have HK4 := Lib.hid (HK2.out.trans (Kpt.of HB4.out (by omega)))
      have HZ4 := Lib.hid (HZa.out.below b4)
      have hcell4 := (HL.out.kept HK4.out).head
      have hs4 := HB4.out.size
      have hlt4 := (Array.getElem?_eq_some_iff.1 HZ4.out).1
      clear b4 cq hcell3
      have cqu := quote_any d hd0 hd q K (HQ.out hd12) B b v L (some ⟨b9, off, none⟩) cap (s :: r) w4 (by have := HK4.out.size; omega) (HF2.out.below HB4.out) (HL.out.kept HK4.out) HF.out (by have h1 := HNN.out; have h2 := HQB.out; omega)
      rw [List.length_cons] at cqu
      clear hcell4
      go_wp2_with fail
      refine cqu.mono ?_
      rintro e w5 ⟨rfl, v5, hf5, hk5⟩
      have HF5 := Lib.hid hf5
      have HK5 := Lib.hid (HK4.out.trans hk5)
      clear hf5 hk5 cqu
      go_wp2
      go_ret
      exact ⟨by rw [HE.out]; rfl, ⟨v5, by rw [HE.out]; exact HF5.out⟩, HK5.out⟩
    | false =>
      rw [hq2] at cq
      have HQ2 := Lib.hid hq2
      clear hq2
      cases hi2 : beginsI d s with
      | true =>
        rw [hi2] at cli
        have HE := Lib.hid (HP.out.symm.trans (firstL_list d q i HBL.out HK0.out HQ2.out hi2))
        have hit : d < 11 ∧ ∃ x, mkItem s = some x := by
          simp only [beginsI, Bool.and_eq_true, decide_eq_true_eq] at hi2
          refine ⟨hi2.2, ?_⟩
          cases hm : mkItem s with
          | none => rw [hm] at hi2; simp at hi2
          | some x => exact ⟨x, rfl⟩
        obtain ⟨hd11, ⟨sg, num, cols, text⟩, hmi⟩ := hit
        have hd10 : d ≤ 10 := by omega
        have HMI := Lib.hid hmi
        clear hi2 ch hmi
        have f1 : decide ((0 : Int) < 0) = false := rfl
        go_enter Tryd.func28, Tryd.ntmps28
        go_wp2_with fail
        refine cb.mono ?_
        rintro e w1 ⟨rfl, b1⟩
        have hs1 := b1.size
        have HK1 := Lib.hid (Kpt.of b1 hB)
        have HF1 := Lib.hid (HH.out.below b1)
        clear b1 hcell cb
        go_wp2_with fail
        refine (cl _ (HL.out.kept HK1.out).row).mono ?_
        rintro e w2 ⟨rfl, b2⟩
        have hs2 := b2.size
        have HF2 := Lib.hid (HF1.out.below b2)
        have HK2 := Lib.hid (HK1.out.trans (Kpt.of b2 (by omega)))
        have ba : Below w2.heap.size w2 (w2.alloc (.cells #[.int .i64 xk, .int .i64 xd, .int .i64 xn, .bool xt, .string ⟨xs.toArray⟩, .string ⟨xi.toArray⟩] 28)) := (Below.refl _ w2).alloc (Nat.le_refl _) _
        have hza : BlkAt (w2.alloc (.cells #[.int .i64 xk, .int .i64 xd, .int .i64 xn, .bool xt, .string ⟨xs.toArray⟩, .string ⟨xi.toArray⟩] 28)) w2.heap.size ⟨xk, xd, xn, xt, xs, xi⟩ := heap_alloc_new w2 _
        have HBa := Lib.hid ba
        have HZa := Lib.hid hza
        have hsa := alloc_size w2 (.cells #[.int .i64 xk, .int .i64 xd, .int .i64 xn, .bool xt, .string ⟨xs.toArray⟩, .string ⟨xi.toArray⟩] 28)
        have hcell3 := (HL.out.kept (HK2.out.trans (Kpt.of ba (by omega)))).head
        clear b2 cl ba hza
        go_wp2_with fail
        refine (cq _).mono ?_
        rintro e w4 ⟨rfl, b4⟩
        have HB4 := Lib.hid (HBa.out.trans (b4.mono (by omega)))
        have HK4 := Lib.hid (HK2.out.trans (Kpt.of HB4.out (by omega)))
        have HZ4 := Lib.hid (HZa.out.below b4)
        have hcell4 := (HL.out.kept HK4.out).head
        have hs4 := HB4.out.size
        have hlt4 := (Array.getElem?_eq_some_iff.1 HZ4.out).1
        clear b4 cq hcell3
        go_wp2_with fail
        refine (cli _).mono ?_
        rintro e w6 ⟨rfl, b6⟩
        have HB6 := Lib.hid (HB4.out.trans (b6.mono (by omega)))
        have HK6 := Lib.hid (HK2.out.trans (Kpt.of HB6.out (by omega)))
        have HZ6 := Lib.hid (HZ4.out.below b6)
        have hcell6 := (HL.out.kept HK6.out).head
        have hs6 := HB6.out.size
        have hlt6 := (Array.getElem?_eq_some_iff.1 HZ6.out).1
        clear b6 cli hcell4
        have cls := list_core d hd0 hd10 i K hK (HI.out hd11) HIK.out B b v L b9 off cap (s :: r) w6 (by have := HK6.out.size; omega) (HF2.out.below HB6.out) (HL.out.kept HK6.out) HF.out (by simp) (by rw [List.headD_cons]; exact HMI.out) (by rw [List.length_cons]; exact HNN.out)
        rw [List.length_cons] at cls
        clear hcell6
        go_wp2_with fail
        refine cls.mono ?_
        rintro e w7 ⟨rfl, ⟨v7, hf7⟩, hk7⟩
        have HF7 := Lib.hid hf7
        have HK7 := Lib.hid (HK6.out.trans hk7)
        clear hf7 hk7 cls
        go_wp2
        go_ret
        exact ⟨by rw [HE.out]; rfl, ⟨v7, by rw [HE.out]; exact HF7.out⟩, HK7.out⟩
      | false =>
        rw [hi2] at cli
        have HI2 := Lib.hid hi2
        clear hi2
        cases hh2 : mkHtml s with
        | true =>
          rw [hh2] at ch
          have HE := Lib.hid (HP.out.symm.trans (firstL_raw d q i HBL.out HK0.out HQ2.out HI2.out hh2))
          have cr := fun W h => raw_any (some ⟨b9, off, none⟩) cap (s :: r) W h HF.out
          rw [List.length_cons] at cr
          generalize hY : rawL (s :: r) = Y at *
          obtain ⟨⟨yk, yd, yn, yt, ys, yi⟩, ky⟩ := Y
          simp only [blkV] at cr
          clear hh2 hY
          have f1 : decide ((0 : Int) < 0) = false := rfl
          go_enter Tryd.func28, Tryd.ntmps28
          go_wp2_with fail
          refine cb.mono ?_
          rintro e w1 ⟨rfl, b1⟩
          have hs1 := b1.size
          have HK1 := Lib.hid (Kpt.of b1 hB)
          have HF1 := Lib.hid (HH.out.below b1)
          clear b1 hcell cb
          go_wp2_with fail
          refine (cl _ (HL.out.kept HK1.out).row).mono ?_
          rintro e w2 ⟨rfl, b2⟩
          have hs2 := b2.size
          have HF2 := Lib.hid (HF1.out.below b2)
          have HK2 := Lib.hid (HK1.out.trans (Kpt.of b2 (by omega)))
          have ba : Below w2.heap.size w2 (w2.alloc (.cells #[.int .i64 xk, .int .i64 xd, .int .i64 xn, .bool xt, .string ⟨xs.toArray⟩, .string ⟨xi.toArray⟩] 28)) := (Below.refl _ w2).alloc (Nat.le_refl _) _
          have hza : BlkAt (w2.alloc (.cells #[.int .i64 xk, .int .i64 xd, .int .i64 xn, .bool xt, .string ⟨xs.toArray⟩, .string ⟨xi.toArray⟩] 28)) w2.heap.size ⟨xk, xd, xn, xt, xs, xi⟩ := heap_alloc_new w2 _
          have HBa := Lib.hid ba
          have HZa := Lib.hid hza
          have hsa := alloc_size w2 (.cells #[.int .i64 xk, .int .i64 xd, .int .i64 xn, .bool xt, .string ⟨xs.toArray⟩, .string ⟨xi.toArray⟩] 28)
          have hcell3 := (HL.out.kept (HK2.out.trans (Kpt.of ba (by omega)))).head
          clear b2 cl ba hza
          go_wp2_with fail
          refine (cq _).mono ?_
          rintro e w4 ⟨rfl, b4⟩
          have HB4 := Lib.hid (HBa.out.trans (b4.mono (by omega)))
          have HK4 := Lib.hid (HK2.out.trans (Kpt.of HB4.out (by omega)))
          have HZ4 := Lib.hid (HZa.out.below b4)
          have hcell4 := (HL.out.kept HK4.out).head
          have hs4 := HB4.out.size
          have hlt4 := (Array.getElem?_eq_some_iff.1 HZ4.out).1
          clear b4 cq hcell3
          go_wp2_with fail
          refine (cli _).mono ?_
          rintro e w6 ⟨rfl, b6⟩
          have HB6 := Lib.hid (HB4.out.trans (b6.mono (by omega)))
          have HK6 := Lib.hid (HK2.out.trans (Kpt.of HB6.out (by omega)))
          have HZ6 := Lib.hid (HZ4.out.below b6)
          have hcell6 := (HL.out.kept HK6.out).head
          have hs6 := HB6.out.size
          have hlt6 := (Array.getElem?_eq_some_iff.1 HZ6.out).1
          clear b6 cli hcell4
          go_wp2_with fail
          refine (ch _).mono ?_
          rintro e w8 ⟨rfl, b8⟩
          have HB8 := Lib.hid (HB6.out.trans (b8.mono (by omega)))
          have HK8 := Lib.hid (HK2.out.trans (Kpt.of HB8.out (by omega)))
          have HZ8 := Lib.hid (HZ6.out.below b8)
          have hcell8 := (HL.out.kept HK8.out).head
          have hs8 := HB8.out.size
          have hlt8 := (Array.getElem?_eq_some_iff.1 HZ8.out).1
          clear b8 ch hcell6
          clear hcell8
          go_wp2_with fail
          refine (cr _ (HL.out.kept HK8.out).row).mono ?_
          rintro e w9 ⟨rfl, b9'⟩
          have HB9 := Lib.hid (HB8.out.trans (b9'.mono (by omega)))
          have HZ9 := Lib.hid (HZ8.out.below b9')
          have hs9 := HB9.out.size
          obtain ⟨k0, k1, k2, k3, k4, k5, kf⟩ := HZ9.out.cells
          have HS := Lib.hid (HZ9.out.set ⟨yk, yd, yn, yt, ys, yi⟩)
          have HW := Lib.hid (below_set6 (g := w2.heap.size) HB9.out (Nat.le_refl _) (.int .i64 yk) (.int .i64 yd) (.int .i64 yn) (.bool yt) (.string ⟨ys.toArray⟩) (.string ⟨yi.toArray⟩))
          clear b9' cr
          have cp := put_any B b v L d ⟨yk, yd, yn, yt, ys, yi⟩ _ (by have := HW.out.size; omega) (HF2.out.below HW.out) (by omega)
          simp only [blkV] at cp
          have HKS := Lib.hid (HK2.out.trans (Kpt.of HW.out (by omega)))
          obtain ⟨m0, m1, m2, m3, m4, m5, mf⟩ := HS.out.cells
          dsimp only at m0 m1 m2 m3 m4 m5
          clear HW HS
          go_wp2_with fail
          refine cp.mono ?_
          rintro e w10 ⟨rfl, v10, hf10, hk10⟩
          have HF10 := Lib.hid hf10
          have HK10 := Lib.hid (HKS.out.trans hk10)
          clear hf10 hk10 cp
          go_wp2
          go_ret
          exact ⟨by rw [HE.out]; rfl, ⟨v10, by rw [HE.out]; exact HF10.out⟩, HK10.out⟩
        | false =>
          rw [hh2] at ch
          have HE := Lib.hid (HP.out.symm.trans (firstL_para d q i HBL.out HK0.out HQ2.out HI2.out hh2))
          have cr := fun W h => para_any d (some ⟨b9, off, none⟩) cap s r W h HF.out
          generalize hY : paraL d (s :: r) = Y at *
          obtain ⟨⟨yk, yd, yn, yt, ys, yi⟩, ky⟩ := Y
          simp only [blkV] at cr
          clear hh2 hY
          have f1 : decide ((0 : Int) < 0) = false := rfl
          go_enter Tryd.func28, Tryd.ntmps28
          go_wp2_with fail
          refine cb.mono ?_
          rintro e w1 ⟨rfl, b1⟩
          have hs1 := b1.size
          have HK1 := Lib.hid (Kpt.of b1 hB)
          have HF1 := Lib.hid (HH.out.below b1)
          clear b1 hcell cb
          go_wp2_with fail
          refine (cl _ (HL.out.kept HK1.out).row).mono ?_
          rintro e w2 ⟨rfl, b2⟩
          have hs2 := b2.size
          have HF2 := Lib.hid (HF1.out.below b2)
          have HK2 := Lib.hid (HK1.out.trans (Kpt.of b2 (by omega)))
          have ba : Below w2.heap.size w2 (w2.alloc (.cells #[.int .i64 xk, .int .i64 xd, .int .i64 xn, .bool xt, .string ⟨xs.toArray⟩, .string ⟨xi.toArray⟩] 28)) := (Below.refl _ w2).alloc (Nat.le_refl _) _
          have hza : BlkAt (w2.alloc (.cells #[.int .i64 xk, .int .i64 xd, .int .i64 xn, .bool xt, .string ⟨xs.toArray⟩, .string ⟨xi.toArray⟩] 28)) w2.heap.size ⟨xk, xd, xn, xt, xs, xi⟩ := heap_alloc_new w2 _
          have HBa := Lib.hid ba
          have HZa := Lib.hid hza
          have hsa := alloc_size w2 (.cells #[.int .i64 xk, .int .i64 xd, .int .i64 xn, .bool xt, .string ⟨xs.toArray⟩, .string ⟨xi.toArray⟩] 28)
          have hcell3 := (HL.out.kept (HK2.out.trans (Kpt.of ba (by omega)))).head
          clear b2 cl ba hza
          go_wp2_with fail
          refine (cq _).mono ?_
          rintro e w4 ⟨rfl, b4⟩
          have HB4 := Lib.hid (HBa.out.trans (b4.mono (by omega)))
          have HK4 := Lib.hid (HK2.out.trans (Kpt.of HB4.out (by omega)))
          have HZ4 := Lib.hid (HZa.out.below b4)
          have hcell4 := (HL.out.kept HK4.out).head
          have hs4 := HB4.out.size
          have hlt4 := (Array.getElem?_eq_some_iff.1 HZ4.out).1
          clear b4 cq hcell3
          go_wp2_with fail
          refine (cli _).mono ?_
          rintro e w6 ⟨rfl, b6⟩
          have HB6 := Lib.hid (HB4.out.trans (b6.mono (by omega)))
          have HK6 := Lib.hid (HK2.out.trans (Kpt.of HB6.out (by omega)))
          have HZ6 := Lib.hid (HZ4.out.below b6)
          have hcell6 := (HL.out.kept HK6.out).head
          have hs6 := HB6.out.size
          have hlt6 := (Array.getElem?_eq_some_iff.1 HZ6.out).1
          clear b6 cli hcell4
          go_wp2_with fail
          refine (ch _).mono ?_
          rintro e w8 ⟨rfl, b8⟩
          have HB8 := Lib.hid (HB6.out.trans (b8.mono (by omega)))
          have HK8 := Lib.hid (HK2.out.trans (Kpt.of HB8.out (by omega)))
          have HZ8 := Lib.hid (HZ6.out.below b8)
          have hcell8 := (HL.out.kept HK8.out).head
          have hs8 := HB8.out.size
          have hlt8 := (Array.getElem?_eq_some_iff.1 HZ8.out).1
          clear b8 ch hcell6
          clear hcell8
          go_wp2_with fail
          refine (cr _ (HL.out.kept HK8.out).row).mono ?_
          rintro e w9 ⟨rfl, b9'⟩
          have HB9 := Lib.hid (HB8.out.trans (b9'.mono (by omega)))
          have HZ9 := Lib.hid (HZ8.out.below b9')
          have hs9 := HB9.out.size
          obtain ⟨k0, k1, k2, k3, k4, k5, kf⟩ := HZ9.out.cells
          have HS := Lib.hid (HZ9.out.set ⟨yk, yd, yn, yt, ys, yi⟩)
          have HW := Lib.hid (below_set6 (g := w2.heap.size) HB9.out (Nat.le_refl _) (.int .i64 yk) (.int .i64 yd) (.int .i64 yn) (.bool yt) (.string ⟨ys.toArray⟩) (.string ⟨yi.toArray⟩))
          clear b9' cr
          have cp := put_any B b v L d ⟨yk, yd, yn, yt, ys, yi⟩ _ (by have := HW.out.size; omega) (HF2.out.below HW.out) (by omega)
          simp only [blkV] at cp
          have HKS := Lib.hid (HK2.out.trans (Kpt.of HW.out (by omega)))
          obtain ⟨m0, m1, m2, m3, m4, m5, mf⟩ := HS.out.cells
          dsimp only at m0 m1 m2 m3 m4 m5
          clear HW HS
          go_wp2_with fail
          refine cp.mono ?_
          rintro e w10 ⟨rfl, v10, hf10, hk10⟩
          have HF10 := Lib.hid hf10
          have HK10 := Lib.hid (HKS.out.trans hk10)
          clear hf10 hk10 cp
          go_wp2
          go_ret
          exact ⟨by rw [HE.out]; rfl, ⟨v10, by rw [HE.out]; exact HF10.out⟩, HK10.out⟩

end Go.Proofs.YtoleoigpijgboaaDoor
