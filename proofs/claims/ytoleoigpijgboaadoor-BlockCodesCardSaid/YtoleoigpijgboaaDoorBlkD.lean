/-
  Package block: para, leaf: what each answers, in plain words.
-/
import Derived.Test.YtoleoigpijgboaaDoorBlkC
namespace Go.Proofs.YtoleoigpijgboaaDoor
open Go.RowKit
set_option linter.unusedSimpArgs false
set_option linter.unusedVariables false
set_option maxRecDepth 100000

def ParaRel (d : Int) (r : List (List UInt8)) (w : World) (i : Value) (wr : World) : Prop :=
  ∃ j m : Nat, i = .int .i64 m ∧ m = j + 1 ∧ j ≤ r.length ∧ Below w.heap.size w wr ∧ BlkAt wr w.heap.size zeroBlk ∧ paraN d r = ((paraN d (r.drop j)).1 + j, (paraN d (r.drop j)).2)

set_option maxHeartbeats 8000000 in
theorem para_any (d : Int) (A : Option Addr) (cap : Nat) (s : List UInt8) (r : List (List UInt8)) (w : World) (hrow : RowOf w A cap (strs (s :: r))) (hf : Few (s :: r)) :
    Calls Tryd.prog 37 #[.int .i64 d, .slice A (r.length + 1) cap] w fun e w' => e = .returned (.tuple #[blkV (paraL d (s :: r)).1, .int .i64 (paraL d (s :: r)).2]) ∧ Below w.heap.size w w' := by
  have hcl := hrow.strs_le
  have hlen := hf.len
  rw [List.length_cons] at hcl hlen
  have b0 : Below w.heap.size w (w.alloc (.cells #[.int .i64 0, .int .i64 0, .int .i64 0, .bool false, .string ⟨#[]⟩, .string ⟨#[]⟩] 28)) := (Below.refl _ w).alloc (Nat.le_refl _) _
  have z0 := blkAt_zero w
  have HR := Lib.hid hrow
  have HF := Lib.hid hf
  have HB0 := Lib.hid b0
  have HZ0 := Lib.hid z0
  generalize hP : paraL d (s :: r) = P
  unfold paraL at hP
  rw [List.tail_cons] at hP
  have HP := Lib.hid hP
  clear hrow hf b0 z0 hP
  go_enter Tryd.func37, Tryd.ntmps37
  go_wp2_with fail
  go_loopw [6] (fun i wr => ParaRel d r w i wr) (fun i _ => r.length + 1 - (intOf i).toNat)
  case atStart => exact ⟨0, 1, rfl, rfl, Nat.zero_le _, HB0.out, HZ0.out, by simp⟩
  case round =>
    obtain ⟨j, m, rfl, hm, hj, hbw, hz, hd⟩ := hrel
    have hmr : m ≤ r.length + 1 := by omega
    have htl : ((s :: r).take m).length = m := by rw [List.length_take, List.length_cons]; omega
    have cf := fun W h => flow_any A cap ((s :: r).take m) W h (HF.out.take m)
    rw [htl] at cf
    have HB := Lib.hid hbw
    have HZ := Lib.hid hz
    have hss := hbw.size
    have HM := Lib.hid hm
    by_cases hp : j < r.length
    · obtain ⟨b, off, hA, hb, hcell⟩ := (HR.out.below hbw).cellAt (k := m) (by rw [List.length_cons]; omega)
      have hsz := HF.out.size (k := m) (by rw [List.length_cons]; omega)
      have hxe : ∀ hh, (s :: r)[m]'hh = r[j] := by subst hm; intro hh; rfl
      rw [hxe] at hcell hsz
      clear hxe
      rw [drop_line r hp] at hd
      generalize r[j] = x at *
      have cu := fun W => mkUnder_any ⟨x.toArray⟩ W (by rw [str_size]; omega)
      have ce := fun W => ends_any d ⟨x.toArray⟩ W (by rw [str_size]; omega)
      rw [show (⟨x.toArray⟩ : ByteArray).data.toList = x from rfl] at cu ce
      simp only [paraN] at hd
      by_cases hu : 0 < mkUnder x
      · rw [if_pos hu] at hd
        have hlt : m < r.length + 1 := by omega
        have HD := Lib.hid (show paraN d r = (j, mkUnder x) from by rw [hd]; simp)
        have f1 : decide ((0 : Int) < (mkUnder x : Int)) = true := by simp; omega
        have HU := Lib.hid hu
        clear hd hbw hz hsz hu htl ce hm hp hj
        generalize hlv : mkUnder x = lv at *
        clear hlv
        subst hA
        go_wp2_with fail
        refine (cu _).mono ?_
        rintro e w1 ⟨rfl, b1⟩
        have HB1 := Lib.hid (HB.out.then b1)
        have HZ1 := Lib.hid (HZ.out.below b1)
        have hs1 := b1.size
        clear b1 cu hcell
        go_wp2_with fail
        refine (cf _ ((HR.out.below HB1.out).takeL m)).mono ?_
        rintro e w2 ⟨rfl, b2⟩
        have HB2 := Lib.hid (HB1.out.then b2)
        have hz2 := HZ1.out.below b2
        obtain ⟨k0, k1, k2, k3, k4, k5, kf⟩ := hz2.cells
        have HZE := Lib.hid hz2
        clear b2 cf hz2
        generalize hT : flowL ((s :: r).take m) = T at *
        have HT := Lib.hid hT
        clear hT
        have HS := Lib.hid (HZE.out.set ⟨2, 0, lv, false, T, []⟩)
        have HW := Lib.hid (below_set6 (g := w.heap.size) HB2.out (Nat.le_refl _) (.int .i64 (2)) (.int .i64 (0)) (.int .i64 (lv)) (.bool false) (.string ⟨T.toArray⟩) (.string ⟨#[]⟩))
        go_wp2
        (try simp only [Exit.inBlock, Exit.then])
        refine bodyPost_ret (ret_blk rfl HS.out rfl rfl) rfl ⟨by have h := HP.out; rw [HD.out, if_pos (show 0 < (j, lv).2 from HU.out), ← HM.out, HT.out] at h; rw [← h]; exact ret_blkn (by have := HM.out; (try dsimp only); (try omega)), HW.out⟩
      · rw [if_neg hu] at hd
        have hlt : m < r.length + 1 := by omega
        have HU0 := Lib.hid (show mkUnder x = 0 from by omega)
        rw [HU0.out] at cu
        cases hends : endsP d x with
        | true =>
          rw [hends] at ce hd
          simp only [if_true, Nat.zero_add] at hd
          have HD := Lib.hid hd
          clear hd hbw hz hsz hu htl hends hm hp hj
          subst hA
          go_wp2_with fail
          refine (cu _).mono ?_
          rintro e w1 ⟨rfl, b1⟩
          have HB1 := Lib.hid (HB.out.then b1)
          have HZ1 := Lib.hid (HZ.out.below b1)
          have hs1 := b1.size
          have hcell1 := (b1.cell (p := ⟨b, off + m, none⟩) hb).trans hcell
          clear b1 cu hcell
          go_wp2_with fail
          refine (ce _).mono ?_
          rintro e w2 ⟨rfl, b2⟩
          have HB2 := Lib.hid (HB1.out.then b2)
          have HZ2 := Lib.hid (HZ1.out.below b2)
          have hs2 := b2.size
          clear b2 ce hcell1
          go_wp2_with fail
          refine (cf _ ((HR.out.below HB2.out).takeL m)).mono ?_
          rintro e w3 ⟨rfl, b3⟩
          have HB3 := Lib.hid (HB2.out.then b3)
          have hz3 := HZ2.out.below b3
          obtain ⟨k0, k1, k2, k3, k4, k5, kf⟩ := hz3.cells
          have HZE := Lib.hid hz3
          clear b3 cf hz3
          generalize hT : flowL ((s :: r).take m) = T at *
          have HT := Lib.hid hT
          clear hT
          have HS := Lib.hid (HZE.out.set ⟨1, 0, 0, false, T, []⟩)
          have HW := Lib.hid (below_set6 (g := w.heap.size) HB3.out (Nat.le_refl _) (.int .i64 (1)) (.int .i64 (0)) (.int .i64 (0)) (.bool false) (.string ⟨T.toArray⟩) (.string ⟨#[]⟩))
          go_wp2
          (try simp only [Exit.inBlock, Exit.then])
          refine bodyPost_ret (ret_blk rfl HS.out rfl rfl) rfl ⟨by have h := HP.out; rw [HD.out, if_neg (by simp), ← HM.out, HT.out] at h; rw [← h]; exact ret_blkn (by have := HM.out; (try dsimp only); (try omega)), HW.out⟩
        | false =>
          rw [hends] at ce hd
          simp only [Bool.false_eq_true, if_false] at hd
          have HD := Lib.hid (show paraN d r = ((paraN d (r.drop (j + 1))).1 + (j + 1), (paraN d (r.drop (j + 1))).2) from by rw [hd]; congr 1; omega)
          clear hd hbw hz hsz hu htl hends cf hm hp
          subst hA
          go_wp2_with fail
          refine (cu _).mono ?_
          rintro e w1 ⟨rfl, b1⟩
          have HB1 := Lib.hid (HB.out.then b1)
          have HZ1 := Lib.hid (HZ.out.below b1)
          have hs1 := b1.size
          have hcell1 := (b1.cell (p := ⟨b, off + m, none⟩) hb).trans hcell
          clear b1 cu hcell
          go_wp2_with fail
          refine (ce _).mono ?_
          rintro e w2 ⟨rfl, b2⟩
          have HB2 := Lib.hid (HB1.out.then b2)
          have HZ2 := Lib.hid (HZ1.out.below b2)
          clear b2 ce hcell1
          go_wp2
          go_roundw
          case rel => exact ⟨j + 1, m + 1, by go_num, by rw [HM.out], by have := HM.out; omega, HB2.out, HZ2.out, HD.out⟩
          case measure => simp [intOf]; omega
    · have hme : ¬ m < r.length + 1 := by omega
      obtain rfl : j = r.length := by omega
      rw [List.drop_length] at hd
      have HD := Lib.hid (show paraN d r = (r.length, 0) from by rw [hd]; simp [paraN])
      clear hd hbw hz htl hm hp hj
      go_wp2_with fail
      refine (cf _ ((HR.out.below HB.out).takeL m)).mono ?_
      rintro e w3 ⟨rfl, b3⟩
      have HB3 := Lib.hid (HB.out.then b3)
      have hz3 := HZ.out.below b3
      obtain ⟨k0, k1, k2, k3, k4, k5, kf⟩ := hz3.cells
      have HZE := Lib.hid hz3
      clear b3 cf hz3
      generalize hT : flowL ((s :: r).take m) = T at *
      have HT := Lib.hid hT
      clear hT
      have HS := Lib.hid (HZE.out.set ⟨1, 0, 0, false, T, []⟩)
      have HW := Lib.hid (below_set6 (g := w.heap.size) HB3.out (Nat.le_refl _) (.int .i64 (1)) (.int .i64 (0)) (.int .i64 (0)) (.bool false) (.string ⟨T.toArray⟩) (.string ⟨#[]⟩))
      go_wp2
      (try simp only [Exit.inBlock, Exit.then])
      refine bodyPost_ret (ret_blk rfl HS.out rfl rfl) rfl ⟨by have h := HP.out; rw [HD.out, if_neg (by simp), ← HM.out, HT.out] at h; rw [← h]; exact ret_blkn (by have := HM.out; (try dsimp only); (try omega)), HW.out⟩

theorem mkFence_sign {l : List UInt8} {c : UInt8} {n : Nat} {i : List UInt8} (h : mkFence l = some (c, n, i)) : c.toNat < 128 := by
  have key : ∀ (x : UInt8) (p : Prop) [Decidable p] (a : Nat) (b : List UInt8), (if p then (none : Option (UInt8 × Nat × List UInt8)) else some (x, a, b)) = some (c, n, i) → x = c := by
    intro x p _ a b h
    by_cases hp : p
    · rw [if_pos hp] at h; cases h
    · rw [if_neg hp] at h
      simp only [Option.some.injEq, Prod.mk.injEq] at h
      exact h.1
  unfold mkFence at h
  dsimp only at h
  rw [← key _ _ _ _ h]
  split <;> decide
theorem leafL_indented {s : List UInt8} {r : List (List UInt8)} (h : 4 ≤ mCols s 0) : leafL (s :: r) = indentedL (s :: r) := by
  unfold leafL
  rw [List.headD_cons, if_pos h]
theorem leafL_fence {s : List UInt8} {r : List (List UInt8)} (h : ¬ 4 ≤ mCols s 0) {c : UInt8} {n : Nat} {i : List UInt8} (hf : mkFence s = some (c, n, i)) : leafL (s :: r) = fencedL (s :: r) c n i := by
  unfold leafL
  rw [List.headD_cons, if_neg h, hf]
theorem leafL_head {s : List UInt8} {r : List (List UInt8)} (h : ¬ 4 ≤ mCols s 0) (hf : mkFence s = none) {lv : Nat} {t : List UInt8} (hh : mkHead s = some (lv, t)) : leafL (s :: r) = (⟨2, 0, lv, false, t, []⟩, 1) := by
  unfold leafL
  rw [List.headD_cons, if_neg h, hf, hh]
theorem leafL_rule {s : List UInt8} {r : List (List UInt8)} (h : ¬ 4 ≤ mCols s 0) (hf : mkFence s = none) (hh : mkHead s = none) : leafL (s :: r) = if mkRule s then (⟨7, 0, 0, false, [], []⟩, 1) else (zeroBlk, 0) := by
  unfold leafL
  rw [List.headD_cons, if_neg h, hf, hh]

set_option maxHeartbeats 8000000 in
theorem leaf_any (A : Option Addr) (cap : Nat) (s : List UInt8) (r : List (List UInt8)) (w : World) (hrow : RowOf w A cap (strs (s :: r))) (hf : Few (s :: r)) :
    Calls Tryd.prog 30 #[.slice A (r.length + 1) cap] w fun e w' => e = .returned (.tuple #[blkV (leafL (s :: r)).1, .int .i64 (leafL (s :: r)).2]) ∧ Below w.heap.size w w' := by
  have hcl := hrow.strs_le
  have hlen := hf.len
  rw [List.length_cons] at hcl hlen
  have b0 : Below w.heap.size w (w.alloc (.cells #[.int .i64 0, .int .i64 0, .int .i64 0, .bool false, .string ⟨#[]⟩, .string ⟨#[]⟩] 28)) := (Below.refl _ w).alloc (Nat.le_refl _) _
  have z0 := blkAt_zero w
  obtain ⟨b, off, hA, hb, hcell⟩ := hrow.cellAt (k := 0) (by simp)
  rw [show (s :: r)[0] = s from rfl, Nat.add_zero] at hcell
  have hsz := hf.size (k := 0) (by simp)
  rw [show (s :: r)[0] = s from rfl] at hsz
  have ci := fun W => indent_any ⟨s.toArray⟩ W (by rw [str_size]; omega)
  have cfe := fun W => mkFence_any ⟨s.toArray⟩ W (by rw [str_size]; omega)
  have ch := fun W => mkHeading_any ⟨s.toArray⟩ W (by rw [str_size]; omega)
  have cr := fun W => mkRule_any ⟨s.toArray⟩ W (by rw [str_size]; omega)
  rw [show (⟨s.toArray⟩ : ByteArray).data.toList = s from rfl] at ci cfe ch cr
  have hm1 := mCols_le s 0
  have hm2 := mSize_le s
  have cin := fun W h => indented_any A cap (s :: r) W h hf
  rw [List.length_cons] at cin
  have cfen := fun c hc n i W h => fenced_any A cap s r c hc n i W h hf
  have hcell0 := (b0.cell (p := ⟨b, off, none⟩) hb).trans hcell
  have hs0 := alloc_size w (.cells #[.int .i64 0, .int .i64 0, .int .i64 0, .bool false, .string ⟨#[]⟩, .string ⟨#[]⟩] 28)
  have HR := Lib.hid (hrow.below b0)
  have HB0 := Lib.hid b0
  have HZ0 := Lib.hid z0
  have HC := Lib.hid hcell0
  generalize hP : leafL (s :: r) = P
  have HP := Lib.hid hP
  clear hrow hf b0 z0 hP hcell hcell0
  have HCI := Lib.hid ci
  have HCF := Lib.hid cfe
  have HCH := Lib.hid ch
  have HCR := Lib.hid cr
  have HIN := Lib.hid cin
  have HFE := Lib.hid cfen
  clear ci cfe ch cr cin cfen
  subst hA
  by_cases h4 : 4 ≤ mCols s 0
  · have HE := Lib.hid (HP.out.symm.trans (leafL_indented h4))
    have f1 : decide ((4 : Int) ≤ (mCols s 0 : Int)) = true := by simp; omega
    have cin := HIN.out
    clear h4
    have ci := HCI.out
    generalize mCols s 0 = mc at *
    generalize hI : indentedL (s :: r) = I at *
    obtain ⟨⟨xk, xd, xn, xt, xs, xi⟩, kk⟩ := I
    simp only [blkV] at cin
    have hcell0 := HC.out
    go_enter Tryd.func30, Tryd.ntmps30
    go_wp2_with fail
    refine (ci _).mono ?_
    rintro e w1 ⟨rfl, b1⟩
    have HB1 := Lib.hid (HB0.out.then b1)
    have HZ1 := Lib.hid (HZ0.out.below b1)
    have HR1 := Lib.hid (HR.out.below b1)
    clear b1 ci hcell0
    go_wp2_with fail
    refine (cin _ HR1.out).mono ?_
    rintro e w2 ⟨rfl, b2⟩
    have HB2 := Lib.hid (HB1.out.then b2)
    have hz2 := HZ1.out.below b2
    obtain ⟨k0, k1, k2, k3, k4, k5, kf⟩ := hz2.cells
    have HZE := Lib.hid hz2
    clear b2 cin hz2
    have HS := Lib.hid (HZE.out.set ⟨xk, xd, xn, xt, xs, xi⟩)
    have HW := Lib.hid (below_set6 (g := w.heap.size) HB2.out (Nat.le_refl _) (.int .i64 (xk)) (.int .i64 (xd)) (.int .i64 (xn)) (.bool xt) (.string ⟨xs.toArray⟩) (.string ⟨xi.toArray⟩))
    go_wp2
    (try simp only [Exit.inBlock, Exit.then])
    refine bodyPost_ret (ret_blk rfl HS.out rfl rfl) rfl ⟨by rw [HE.out]; exact ret_blkn rfl, HW.out⟩
  · have f1 : decide ((4 : Int) ≤ (mCols s 0 : Int)) = false := by simp; omega
    have H4 := Lib.hid h4
    have ci := HCI.out
    generalize hmc : mCols s 0 = mc at *
    have hmc0 := Lib.hid hmc
    clear h4 hmc
    have cfe := HCF.out
    cases hfe : mkFence s with
    | some x =>
      obtain ⟨c, n, i⟩ := x
      rw [hfe] at cfe
      unfold mkFenceV at cfe
      dsimp only at cfe
      have cfen := HFE.out c (mkFence_sign hfe) n i
      have HE := Lib.hid (HP.out.symm.trans (leafL_fence (r := r) (by rw [hmc0.out]; exact H4.out) hfe))
      clear hfe
      generalize hI : fencedL (s :: r) c n i = I at *
      obtain ⟨⟨xk, xd, xn, xt, xs, xi⟩, kk⟩ := I
      simp only [blkV] at cfen
      have hcell0 := HC.out
      go_enter Tryd.func30, Tryd.ntmps30
      go_wp2_with fail
      refine (ci _).mono ?_
      rintro e w1 ⟨rfl, b1⟩
      have HB1 := Lib.hid (HB0.out.then b1)
      have HZ1 := Lib.hid (HZ0.out.below b1)
      have HR1 := Lib.hid (HR.out.below b1)
      have hs1 := b1.size
      have hcell1 := (b1.cell (p := ⟨b, off, none⟩) (by show b < _; omega)).trans hcell0
      clear b1 ci hcell0
      go_wp2_with fail
      refine (cfe _).mono ?_
      rintro e w2 ⟨rfl, b2⟩
      have HB2 := Lib.hid (HB1.out.then b2)
      have HZ2 := Lib.hid (HZ1.out.below b2)
      have HR2 := Lib.hid (HR1.out.below b2)
      clear b2 cfe hcell1
      go_wp2_with fail
      refine (cfen _ HR2.out).mono ?_
      rintro e w3 ⟨rfl, b3⟩
      have HB3 := Lib.hid (HB2.out.then b3)
      have hz3 := HZ2.out.below b3
      obtain ⟨k0, k1, k2, k3, k4, k5, kf⟩ := hz3.cells
      have HZE := Lib.hid hz3
      clear b3 cfen hz3
      have HS := Lib.hid (HZE.out.set ⟨xk, xd, xn, xt, xs, xi⟩)
      have HW := Lib.hid (below_set6 (g := w.heap.size) HB3.out (Nat.le_refl _) (.int .i64 (xk)) (.int .i64 (xd)) (.int .i64 (xn)) (.bool xt) (.string ⟨xs.toArray⟩) (.string ⟨xi.toArray⟩))
      go_wp2
      (try simp only [Exit.inBlock, Exit.then])
      refine bodyPost_ret (ret_blk rfl HS.out rfl rfl) rfl ⟨by rw [HE.out]; exact ret_blkn rfl, HW.out⟩
    | none =>
      rw [hfe] at cfe
      unfold mkFenceV at cfe
      dsimp only at cfe
      have ch := HCH.out
      have HFN := Lib.hid hfe
      clear hfe
      cases hhe : mkHead s with
      | some x =>
        obtain ⟨lv, t⟩ := x
        rw [hhe] at ch
        unfold mkHeadV at ch
        dsimp only at ch
        have HE := Lib.hid (HP.out.symm.trans (leafL_head (r := r) (by rw [hmc0.out]; exact H4.out) HFN.out hhe))
        clear hhe
        have hcell0 := HC.out
        go_enter Tryd.func30, Tryd.ntmps30
        go_wp2_with fail
        refine (ci _).mono ?_
        rintro e w1 ⟨rfl, b1⟩
        have HB1 := Lib.hid (HB0.out.then b1)
        have HZ1 := Lib.hid (HZ0.out.below b1)
        have hs1 := b1.size
        have hcell1 := (b1.cell (p := ⟨b, off, none⟩) (by show b < _; omega)).trans hcell0
        clear b1 ci hcell0
        go_wp2_with fail
        refine (cfe _).mono ?_
        rintro e w2 ⟨rfl, b2⟩
        have HB2 := Lib.hid (HB1.out.then b2)
        have HZ2 := Lib.hid (HZ1.out.below b2)
        have hs2 := b2.size
        have hcell2 := (b2.cell (p := ⟨b, off, none⟩) (by show b < _; omega)).trans hcell1
        clear b2 cfe hcell1
        go_wp2_with fail
        refine (ch _).mono ?_
        rintro e w3 ⟨rfl, b3⟩
        have HB3 := Lib.hid (HB2.out.then b3)
        have hz3 := HZ2.out.below b3
        obtain ⟨k0, k1, k2, k3, k4, k5, kf⟩ := hz3.cells
        have HZE := Lib.hid hz3
        clear b3 ch hz3 hcell2
        have HS := Lib.hid (HZE.out.set ⟨2, 0, lv, false, t, []⟩)
        have HW := Lib.hid (below_set6 (g := w.heap.size) HB3.out (Nat.le_refl _) (.int .i64 (2)) (.int .i64 (0)) (.int .i64 (lv)) (.bool false) (.string ⟨t.toArray⟩) (.string ⟨#[]⟩))
        go_wp2
        (try simp only [Exit.inBlock, Exit.then])
        refine bodyPost_ret (ret_blk rfl HS.out rfl rfl) rfl ⟨by rw [HE.out]; exact ret_blkn rfl, HW.out⟩
      | none =>
        rw [hhe] at ch
        unfold mkHeadV at ch
        dsimp only at ch
        have HE0 := Lib.hid (HP.out.symm.trans (leafL_rule (r := r) (by rw [hmc0.out]; exact H4.out) HFN.out hhe))
        clear hhe
        have cr := HCR.out
        cases hru : mkRule s with
        | true =>
          rw [hru] at cr
          have HE := Lib.hid (HE0.out.trans (by rw [hru]; rfl : _ = ((⟨7, 0, 0, false, [], []⟩ : Blk), 1)))
          clear hru
          have hcell0 := HC.out
          go_enter Tryd.func30, Tryd.ntmps30
          go_wp2_with fail
          refine (ci _).mono ?_
          rintro e w1 ⟨rfl, b1⟩
          have HB1 := Lib.hid (HB0.out.then b1)
          have HZ1 := Lib.hid (HZ0.out.below b1)
          have hs1 := b1.size
          have hcell1 := (b1.cell (p := ⟨b, off, none⟩) (by show b < _; omega)).trans hcell0
          clear b1 ci hcell0
          go_wp2_with fail
          refine (cfe _).mono ?_
          rintro e w2 ⟨rfl, b2⟩
          have HB2 := Lib.hid (HB1.out.then b2)
          have HZ2 := Lib.hid (HZ1.out.below b2)
          have hs2 := b2.size
          have hcell2 := (b2.cell (p := ⟨b, off, none⟩) (by show b < _; omega)).trans hcell1
          clear b2 cfe hcell1
          go_wp2_with fail
          refine (ch _).mono ?_
          rintro e w3 ⟨rfl, b3⟩
          have HB3 := Lib.hid (HB2.out.then b3)
          have HZ3 := Lib.hid (HZ2.out.below b3)
          have hs3 := b3.size
          have hcell3 := (b3.cell (p := ⟨b, off, none⟩) (by show b < _; omega)).trans hcell2
          clear b3 ch hcell2
          go_wp2_with fail
          refine (cr _).mono ?_
          rintro e w4 ⟨rfl, b4⟩
          have HB4 := Lib.hid (HB3.out.then b4)
          have hz4 := HZ3.out.below b4
          obtain ⟨k0, k1, k2, k3, k4, k5, kf⟩ := hz4.cells
          have HZE := Lib.hid hz4
          clear b4 cr hz4 hcell3
          have HS := Lib.hid (HZE.out.set ⟨7, 0, 0, false, [], []⟩)
          have HW := Lib.hid (below_set6 (g := w.heap.size) HB4.out (Nat.le_refl _) (.int .i64 (7)) (.int .i64 (0)) (.int .i64 (0)) (.bool false) (.string ⟨#[]⟩) (.string ⟨#[]⟩))
          go_wp2
          (try simp only [Exit.inBlock, Exit.then])
          refine bodyPost_ret (ret_blk rfl HS.out rfl rfl) rfl ⟨by rw [HE.out]; exact ret_blkn rfl, HW.out⟩
        | false =>
          rw [hru] at cr
          have HE := Lib.hid (HE0.out.trans (by rw [hru]; rfl : _ = (zeroBlk, 0)))
          clear hru
          have hcell0 := HC.out
          go_enter Tryd.func30, Tryd.ntmps30
          go_wp2_with fail
          refine (ci _).mono ?_
          rintro e w1 ⟨rfl, b1⟩
          have HB1 := Lib.hid (HB0.out.then b1)
          have HZ1 := Lib.hid (HZ0.out.below b1)
          have hs1 := b1.size
          have hcell1 := (b1.cell (p := ⟨b, off, none⟩) (by show b < _; omega)).trans hcell0
          clear b1 ci hcell0
          go_wp2_with fail
          refine (cfe _).mono ?_
          rintro e w2 ⟨rfl, b2⟩
          have HB2 := Lib.hid (HB1.out.then b2)
          have HZ2 := Lib.hid (HZ1.out.below b2)
          have hs2 := b2.size
          have hcell2 := (b2.cell (p := ⟨b, off, none⟩) (by show b < _; omega)).trans hcell1
          clear b2 cfe hcell1
          go_wp2_with fail
          refine (ch _).mono ?_
          rintro e w3 ⟨rfl, b3⟩
          have HB3 := Lib.hid (HB2.out.then b3)
          have HZ3 := Lib.hid (HZ2.out.below b3)
          have hs3 := b3.size
          have hcell3 := (b3.cell (p := ⟨b, off, none⟩) (by show b < _; omega)).trans hcell2
          clear b3 ch hcell2
          go_wp2_with fail
          refine (cr _).mono ?_
          rintro e w4 ⟨rfl, b4⟩
          have HB4 := Lib.hid (HB3.out.then b4)
          have hz4 := HZ3.out.below b4
          obtain ⟨k0, k1, k2, k3, k4, k5, kf⟩ := hz4.cells
          have HZE := Lib.hid hz4
          clear b4 cr hz4 hcell3
          have HS := Lib.hid (HZE.out.set ⟨0, 0, 0, false, [], []⟩)
          have HW := Lib.hid (below_set6 (g := w.heap.size) HB4.out (Nat.le_refl _) (.int .i64 (0)) (.int .i64 (0)) (.int .i64 (0)) (.bool false) (.string ⟨#[]⟩) (.string ⟨#[]⟩))
          go_wp2
          (try simp only [Exit.inBlock, Exit.then])
          refine bodyPost_ret (ret_blk rfl HS.out rfl rfl) rfl ⟨by rw [HE.out]; exact ret_blkn rfl, HW.out⟩

end Go.Proofs.YtoleoigpijgboaaDoor
