/-
  Package block: list: a list, its items, and what lies in them.
-/
import Derived.Test.YtoleoigpijgboaaDoorBlkG
import Derived.Laws.AppendOwnNone
namespace Go.Proofs.YtoleoigpijgboaaDoor
open Go.RowKit
set_option linter.unusedSimpArgs false
set_option linter.unusedVariables false
set_option maxRecDepth 100000

/-- One reads on: of the lines up to the k-th the items' blocks are D; the last of them ends ahead of the n-th. -/
structure LstSt (B b : Nat) (d : Int) (i : List (List UInt8) → List Blk) (K : Nat) (sg : UInt8) (X : List Blk) (ls : List (List UInt8)) (w : World) (n k : Nat) (D : List Blk) (v : Value) (wr : World) : Prop where
  hn : n ≤ k
  hk : k ≤ ls.length
  hD : D.length ≤ (K + 1) * k
  fin : FinIs wr B b v (X ++ D)
  kpt : Kpt B w wr
  st1 : (itemsL d i sg ls.length ls).1 = D ++ (itemsL d i sg ls.length (ls.drop k)).1
  st2 : (itemsL d i sg ls.length ls).2 = later n k (itemsL d i sg ls.length (ls.drop k)).2
def LstRel (B b : Nat) (d : Int) (i : List (List UInt8) → List Blk) (K : Nat) (sg : UInt8) (X : List Blk) (ls : List (List UInt8)) (w : World) (z u : Value) (wr : World) : Prop :=
  ∃ (n k : Nat) (D : List Blk) (v : Value), z = .int .i64 n ∧ u = .int .i64 k ∧ LstSt B b d i K sg X ls w n k D v wr
theorem enc_sign {sg : UInt8} (h : sg = 45 ∨ sg = 43 ∨ sg = 42 ∨ sg = 46 ∨ sg = 41) : Utf8.encode (sg.toNat : Int) = ⟨#[sg]⟩ := by
  rcases h with rfl | rfl | rfl | rfl | rfl <;> kernel_rfl
theorem own_lines {B : Nat} {w : World} {v : Value} {n : Nat} {ls : List (List UInt8)} (h : w.ownsRow B 9 1 v n (strs ls)) : ∃ A cap, v = .slice A n cap ∧ RowOf w A cap (strs ls) ∧ (A = none → ls = [] ∧ cap = 0) := by
  obtain ⟨A, cap, e, hr, hn, _⟩ := RowOf.own h
  refine ⟨A, cap, e, hr, fun hA => ?_⟩
  subst hA
  have hl := h.1
  rw [strs_length] at hl
  have h0 := hn rfl
  refine ⟨List.eq_nil_of_length_eq_zero (by omega), ?_⟩
  rcases h.2 with ⟨e2, _⟩ | ⟨g, c, cur, e2, _⟩
  · rw [e] at e2; cases e2; rfl
  · rw [e] at e2; cases e2
theorem later_zero (n k : Nat) : later n k 0 = n := rfl
theorem sign_text {sg : UInt8} (h : sg = 45 ∨ sg = 43 ∨ sg = 42 ∨ sg = 46 ∨ sg = 41) : sg.toNat < 128 := by
  rcases h with rfl | rfl | rfl | rfl | rfl <;> decide

set_option maxHeartbeats 16000000 in
theorem list_core (d : Int) (hd0 : 0 ≤ d) (hd : d ≤ 10) (i : List (List UInt8) → List Blk) (K : Nat) (hK : K ≤ 1000) (hi : FunOk (d + 2) i K) (hiK : ∀ l, (i l).length ≤ K * l.length) (B b : Nat) (v : Value) (L : List Blk) (b9 off cap : Nat) (ls : List (List UInt8)) (w : World) (hB : B ≤ w.heap.size) (h : FinIs w B b v L) (hl : Lns B w (some ⟨b9, off, none⟩) cap ls) (hf : Few ls)
    (hne : 0 < ls.length) {sg : UInt8} {num : Int} {cols : Nat} {text : List UInt8} (hm : mkItem (ls.headD []) = some (sg, num, cols, text)) (hn : L.length + (K + 2) * ls.length ≤ 50000000) :
    Calls Tryd.prog 34 #[.pointer (some ⟨b, 0, none⟩), .int .i64 d, .slice (some ⟨b9, off, none⟩) ls.length cap] w fun e w' => e = .returned (.int .i64 (listL d i ls).2) ∧ (∃ v', FinIs w' B b v' (L ++ (listL d i ls).1)) ∧ Kpt B w w' := by
  obtain ⟨i0, hi0, hz0, hz1, hz2⟩ := info_parts infoString
  have hcl := hl.row.strs_le
  have hlen := hf.len
  obtain ⟨P, hP⟩ : ∃ P, listL d i ls = P := ⟨_, rfl⟩
  rw [hP]
  unfold listL at hP
  rw [hm] at hP
  dsimp only at hP
  have HP1 := Lib.hid (congrArg Prod.fst hP).symm
  have HP2 := Lib.hid (congrArg Prod.snd hP).symm
  dsimp only at HP1 HP2
  clear hP
  have hsgn := mkItem_sign hm
  have HEN := Lib.hid (enc_sign hsgn)
  have hsg128 := sign_text hsgn
  obtain ⟨b9', off', hA, hb9, hcell⟩ := hl.row.cellAt hne
  cases hA
  have hx0 : ls[0] = ls.headD [] := by
    cases ls with
    | nil => simp at hne
    | cons a t => rfl
  rw [hx0, Nat.add_zero] at hcell
  have hsz := hf.size hne
  rw [hx0] at hsz
  generalize ls.headD [] = x0 at *
  have ci := mkItem_any ⟨x0.toArray⟩ w (by rw [str_size]; omega)
  rw [show (⟨x0.toArray⟩ : ByteArray).data.toList = x0 from rfl, hm] at ci
  unfold mkItemV at ci
  dsimp only at ci
  have hn2 : (K + 2) * ls.length = (K + 1) * ls.length + ls.length := by rw [Nat.add_mul, Nat.add_mul]; omega
  have HNN := Lib.hid hn
  have HN2 := Lib.hid hn2
  have HF := Lib.hid hf
  have HL := Lib.hid hl
  have HI := Lib.hid hi
  have HIK := Lib.hid hiK
  have HH := Lib.hid h
  obtain ⟨AL, capL, hvL, hLc, hLm⟩ := own_slice h.row
  subst hvL
  have HS0 := Lib.hid hsgn
  have HM0 := Lib.hid hm
  clear h hl hf hi hiK hm hx0 hsz hn hn2 hsgn
  go_enter Tryd.func34, Tryd.ntmps34
  go_wp2_with fail
  refine ci.mono ?_
  rintro e w1 ⟨rfl, b1⟩
  have hh1 := HH.out.below b1
  have hc0 := hh1.c0
  have hs1 := b1.size
  have cp := put_any B b (.slice AL L.length capL) L d ⟨4, 0, num, false, [], [sg]⟩ w1 (by omega) hh1 (by have := HNN.out; omega)
  simp only [blkV] at cp
  have HK1 := Lib.hid (Kpt.of b1 hB)
  clear b1 hh1 ci hcell
  go_wp2_with fail
  rw [HEN.out]
  refine cp.mono ?_
  rintro e w2 ⟨rfl, v2, hh2, hk2⟩
  obtain ⟨X, hX⟩ : ∃ X, L ++ [(⟨4, d, num, false, [], [sg]⟩ : Blk)] = X := ⟨_, rfl⟩
  have hX' : L ++ [{ (⟨4, 0, num, false, [], [sg]⟩ : Blk) with depth := d }] = X := hX
  rw [hX'] at hh2
  have HX := Lib.hid hX.symm
  have HXL := Lib.hid (show X.length = L.length + 1 from by rw [← hX, List.length_append]; rfl)
  have HH2 := Lib.hid hh2
  have HK2 := Lib.hid (HK1.out.trans hk2)
  clear hX hX' hh2 hk2 cp hc0 HK1
  go_wp2_with fail
  go_loopw [13, 14] (fun z u wr => LstRel B b d i K sg X ls w z u wr) (fun _ u _ => ls.length - (intOf u).toNat)
  case atStart => exact ⟨0, 0, [], v2, rfl, rfl, ⟨Nat.le_refl _, Nat.zero_le _, by simp, by rw [List.append_nil]; exact HH2.out, HK2.out, by simp, by
    rw [List.drop_zero]
    cases (itemsL d i sg ls.length ls).2 with
    | zero => rfl
    | succ x => show x + 1 = 0 + (x + 1); omega⟩⟩
  case round =>
    obtain ⟨n, k, D, v3, rfl, rfl, ⟨hnk, hk, hD, hfin, hkpt, hst1, hst2⟩⟩ := hrel
    have HKW := Lib.hid hkpt
    have hssr := hkpt.size
    by_cases hp : k < ls.length
    · obtain ⟨b8, off8, hA8, hb8, hcell⟩ := (HL.out.kept hkpt).row.cellAt hp
      cases hA8
      have hdk := drop_line ls hp
      have hsz := HF.out.size hp
      have hwtx := HF.out.wt _ (List.getElem_mem hp)
      generalize ls[k] = x at *
      have cx := mkItem_any ⟨x.toArray⟩ wr (by rw [str_size]; omega)
      rw [show (⟨x.toArray⟩ : ByteArray).data.toList = x from rfl] at cx
      cases hmx : mkItem x with
      | none =>
        rw [hmx] at cx
        unfold mkItemV at cx
        dsimp only at cx
        have hno := items_none d i sg ls.length x (ls.drop (k + 1)) hmx
        rw [hdk, hno] at hst1 hst2
        rw [List.append_nil] at hst1
        have HD1 := Lib.hid hst1
        have HD2 := Lib.hid (show (itemsL d i sg ls.length ls).2 = n from hst2)
        have HFI := Lib.hid hfin
        clear hst1 hst2 hno hmx hdk hsz hwtx hkpt hfin
        go_wp2_with fail
        refine cx.mono ?_
        rintro e w5 ⟨rfl, b5⟩
        have hfin := HFI.out.below b5
        have HKW := Lib.hid (HKW.out.trans (Kpt.of b5 (by omega)))
        have hs5 := b5.size
        clear b5 cx hcell
        have hXD : X ++ D = L ++ (⟨4, d, num, false, [], [sg]⟩ :: D) := by rw [HX.out]; simp
        rw [hXD] at hfin
        obtain ⟨M, hM⟩ : ∃ M, (L ++ ((⟨4, d, num, false, [], [sg]⟩ : Blk) :: D)).length = M := ⟨_, rfl⟩
        obtain ⟨g, capv, hve, hglt, hMc, hcm, hcg, hfg⟩ := hfin.flagCell hM
        have hncap : n ≤ cap := by omega
        have hLM : ((L.length : Nat) : Int) < (M : Int) := by rw [List.length_append, List.length_cons] at hM; omega
        have hrowW := (HL.out.kept HKW.out).row
        have HROW := Lib.hid hrowW
        have cc := fun W2 h2 => containsBlank_any (some ⟨b9, off, none⟩) cap (ls.take n) W2 h2 (HF.out.take n)
        have htl : (ls.take n).length = n := by rw [List.length_take]; omega
        rw [htl] at cc
        generalize hV : (ls.take n).any (fun s => s.all isGap) = vb at *
        have HV := Lib.hid hV
        subst hve
        have HFin := Lib.hid hfin
        have hc0 := hfin.c0
        have hblt := hfin.lt
        have HCG := Lib.hid (And.intro hcg hfg)
        have HM := Lib.hid hM
        clear hcg hfg hV hrowW hfin htl hM hXD
        go_wp2_with fail
        refine wp_region_N (fun W2 => W2.cell? ⟨b, 0, none⟩ = some (.slice (some ⟨g, 0, none⟩) M capv)) (fun j => decide (j < 10)) (by kernel_rfl) ?_
        have hS := hc0
        refine wpAnyN_take_at 0 99 (v := ?_) rfl rfl (by kernel_rfl) (by kernel_rfl) (by kernel_rfl) (by kernel_rfl) (by kernel_rfl) (fun _ _ _ h => h) (by rfl) ?_ hS ?_
        rotate_left
        · intro w hSw; (try dsimp only at hSw); go_simp; (try with_reducible rfl)
        simp only [Act.put, List.setIfInBounds_toArray, List.set_cons_zero, List.set_cons_succ]
        refine wpAnyN_take_at 1 100 (v := ?_) rfl rfl (by kernel_rfl) (by kernel_rfl) (by kernel_rfl) (by kernel_rfl) (by kernel_rfl) (fun _ _ _ h => h) (by rfl) ?_ hS ?_
        rotate_left
        · intro w hSw; (try dsimp only at hSw); go_simp; (try with_reducible rfl)
        simp only [Act.put, List.setIfInBounds_toArray, List.set_cons_zero, List.set_cons_succ]
        refine wpAnyN_take_at 2 101 (v := ?_) rfl rfl (by kernel_rfl) (by kernel_rfl) (by kernel_rfl) (by kernel_rfl) (by kernel_rfl) (fun _ _ _ h => h) (by rfl) ?_ hS ?_
        rotate_left
        · intro w hSw; (try dsimp only at hSw); go_simp; (try with_reducible rfl)
        simp only [Act.put, List.setIfInBounds_toArray, List.set_cons_zero, List.set_cons_succ]
        refine wpAnyN_take_at 3 102 (v := ?_) rfl rfl (by kernel_rfl) (by kernel_rfl) (by kernel_rfl) (by kernel_rfl) (by kernel_rfl) (fun _ _ _ h => h) (by rfl) ?_ hS ?_
        rotate_left
        · intro w hSw; (try dsimp only at hSw); go_simp; (try with_reducible rfl)
        simp only [Act.put, List.setIfInBounds_toArray, List.set_cons_zero, List.set_cons_succ]
        refine wpAnyN_take_at 4 103 (v := ?_) rfl rfl (by kernel_rfl) (by kernel_rfl) (by kernel_rfl) (by kernel_rfl) (by kernel_rfl) (fun _ _ _ h => h) (by rfl) ?_ hS ?_
        rotate_left
        · intro w hSw; (try dsimp only at hSw); go_simp; (try with_reducible rfl)
        simp only [Act.put, List.setIfInBounds_toArray, List.set_cons_zero, List.set_cons_succ]
        refine wpAnyN_take_at 5 104 (v := ?_) rfl rfl (by kernel_rfl) (by kernel_rfl) (by kernel_rfl) (by kernel_rfl) (by kernel_rfl) (fun _ _ _ h => h) (by rfl) ?_ hS ?_
        rotate_left
        · intro w hSw; (try dsimp only at hSw); go_simp; (try with_reducible rfl)
        simp only [Act.put, List.setIfInBounds_toArray, List.set_cons_zero, List.set_cons_succ]
        refine wpAnyN_take_at 6 105 (v := ?_) rfl rfl (by kernel_rfl) (by kernel_rfl) (by kernel_rfl) (by kernel_rfl) (by kernel_rfl) (fun _ _ _ h => h) (by rfl) ?_ hS ?_
        rotate_left
        · intro w hSw; (try dsimp only at hSw); go_simp; (try with_reducible rfl)
        simp only [Act.put, List.setIfInBounds_toArray, List.set_cons_zero, List.set_cons_succ]
        refine wpAnyN_take_at 7 106 (v := ?_) rfl rfl (by kernel_rfl) (by kernel_rfl) (by kernel_rfl) (by kernel_rfl) (by kernel_rfl) (fun _ _ _ h => h) (by rfl) ?_ hS ?_
        rotate_left
        · intro w hSw; (try dsimp only at hSw); go_simp; (try with_reducible rfl)
        simp only [Act.put, List.setIfInBounds_toArray, List.set_cons_zero, List.set_cons_succ]
        refine wpAnyN_one (i := 8) rfl (by kernel_rfl) (fun KK hKK => ?_)
        go_simp
        refine (cc w5.drew ((rowOf_heap (w' := w5.drew) rfl HROW.out).takeL n)).mono ?_
        rintro e w2 ⟨rfl, b2⟩
        have hb2 : Below w5.heap.size w5 w2 := ⟨b2.os, b2.tape, b2.output, b2.size, b2.block⟩
        refine hKK _ _ (fun _ => (hb2.cell (p := ⟨b, 0, none⟩) hblt).trans hc0) ?_
        have hS := (hb2.cell (p := ⟨b, 0, none⟩) hblt).trans hc0
        clear hKK
        refine wpAnyN_take_at 9 108 (v := ?_) rfl rfl (by kernel_rfl) (by kernel_rfl) (by kernel_rfl) (by kernel_rfl) (by kernel_rfl) (fun _ _ _ h => h) (by rfl) ?_ hS ?_
        rotate_left
        · intro w hSw; (try dsimp only at hSw); go_simp; (try with_reducible rfl)
        simp only [Act.put, List.setIfInBounds_toArray, List.set_cons_zero, List.set_cons_succ]
        refine wpAnyN_rest 10 [_, _, _] rfl (by kernel_rfl) (by kernel_rfl) ?_
        have hfin2 := HFin.out.below hb2
        have hcg2 := (hb2.cell (p := ⟨g, L.length * 6 + 3, none⟩) hglt).trans HCG.out.1
        have hfg2 : w2.frozen? ⟨g, L.length * 6 + 3, none⟩ = false := by
          obtain ⟨g', c', e', _, _, _, _, hf'⟩ := hfin2.flagCell HM.out
          cases e'
          exact hf'
        have HST := Lib.hid (hfin2.setFlag HM.out (!vb))
        have HKE := Lib.hid (HKW.out.trans (Kpt.of hb2 (by have := HKW.out.size; omega)))
        clear hfin2 b2 hb2 hS
        go_wp2
        go_ret
        exact ⟨by rw [HP2.out, HD2.out]; rfl, ⟨_, by rw [HP1.out, HD1.out, HD2.out, HV.out]; exact HST.out.1⟩, HKE.out.trans HST.out.2⟩
      | some y =>
        obtain ⟨sg2, num2, cols2, text2⟩ := y
        rw [hmx] at cx
        unfold mkItemV at cx
        dsimp only at cx
        by_cases hsg : sg2 = sg
        · subst hsg
          have hcb := mkItem_cols hmx
          obtain ⟨hi1, hi2⟩ := items_step d i sg2 ls.length ls (Nat.le_refl _) k x hp hdk hmx
          have hi2 := hi2 n
          rw [hi1] at hst1
          rw [hi2] at hst2
          have hwt2 := wt_item hmx
          have hfi := (hdk ▸ HF.out.drop k : Few (x :: ls.drop (k + 1))).item hmx (deepL cols2 (ls.drop (k + 1))) cols2
          have hjl := deepL_le cols2 (ls.drop (k + 1))
          rw [List.length_drop] at hjl
          have cd := fun W h => deep_any cols2 (by omega) (dropA (some ⟨b9, off, none⟩) cap (k + 1)) (cap - (k + 1)) (ls.drop (k + 1)) W h (HF.out.drop (k + 1))
          rw [List.length_drop] at cd
          have hdl := (HL.out.drop (k := k + 1) (by omega))
          have HDL := Lib.hid hdl
          have hsl1 : ∀ W, (Instr.slice 22 (.slice (some ⟨b9, off, none⟩) ls.length cap) (some (.int .i64 ((k : Int) + 1))) none none).run Tryd.prog W = .ok (.slice (dropA (some ⟨b9, off, none⟩) cap (k + 1)) (ls.length - (k + 1)) (cap - (k + 1))) W := fun W => by
            have := slice_low (some ⟨b9, off, none⟩) ls.length cap (k + 1) (by omega) W
            rw [show ((k + 1 : Nat) : Int) = (k : Int) + 1 from by omega] at this
            exact this
          generalize hj : deepL cols2 (ls.drop (k + 1)) = j at *
          have hsl2 : ∀ W, (Instr.slice 22 (.slice (some ⟨b9, off, none⟩) ls.length cap) (some (.int .i64 ((k : Int) + 1))) (some (.int .i64 ((k : Int) + 1 + (j : Int)))) none).run Tryd.prog W = .ok (.slice (dropA (some ⟨b9, off, none⟩) cap (k + 1)) j (cap - (k + 1))) W := fun W => by
            have := slice_lowhigh (some ⟨b9, off, none⟩) ls.length cap (k + 1) (k + 1 + j) (by omega) (by omega) W
            rw [show ((k + 1 : Nat) : Int) = (k : Int) + 1 from by omega, show ((k + 1 + j : Nat) : Int) = (k : Int) + 1 + (j : Int) from by omega, show k + 1 + j - (k + 1) = j from by omega] at this
            exact this
          have hsl3 : ∀ W, (Instr.slice 22 (.slice (some ⟨b9, off, none⟩) ls.length cap) (some (.int .i64 ((k : Int) + 1 + (j : Int)))) none none).run Tryd.prog W = .ok (.slice (dropA (some ⟨b9, off, none⟩) cap (k + 1 + j)) (ls.length - (k + 1 + j)) (cap - (k + 1 + j))) W := fun W => by
            have := slice_low (some ⟨b9, off, none⟩) ls.length cap (k + 1 + j) (by omega) W
            rw [show ((k + 1 + j : Nat) : Int) = (k : Int) + 1 + (j : Int) from by omega] at this
            exact this
          have htj : ((ls.drop (k + 1)).take j).length = j := by rw [List.length_take, List.length_drop]; omega
          have hsj : (strippedL cols2 ((ls.drop (k + 1)).take j)).length = j := by unfold strippedL; rw [List.length_map]; exact htj
          have csx := fun W h => stripped_any cols2 (by omega) (dropA (some ⟨b9, off, none⟩) cap (k + 1)) (cap - (k + 1)) ((ls.drop (k + 1)).take j) W h ((HF.out.drop (k + 1)).take j)
          rw [htj] at csx
          have cbl := fun W h => blanks_any (dropA (some ⟨b9, off, none⟩) cap (k + 1 + j)) (cap - (k + 1 + j)) (ls.drop (k + 1 + j)) W h (HF.out.drop (k + 1 + j))
          rw [List.length_drop] at cbl
          have hbl := blanksL_le (ls.drop (k + 1 + j))
          rw [List.length_drop] at hbl
          have HDL3 := Lib.hid (HL.out.drop (k := k + 1 + j) (by omega))
          generalize hbq : blanksL (ls.drop (k + 1 + j)) = q at *
          generalize hTS : strippedL cols2 ((ls.drop (k + 1)).take j) = TS at *
          have HFI := Lib.hid hfi
          have HTS := Lib.hid hsj
          have HS1 := Lib.hid hst1
          have HS2 := Lib.hid hst2
          have HDL2 := Lib.hid (fun W (h : Lns B W (dropA (some ⟨b9, off, none⟩) cap (k + 1)) (cap - (k + 1)) (ls.drop (k + 1))) => h.row.takeL j)
          have HFin := Lib.hid hfin
          have hcnt := count_step (j := j) (x := (i (text2 :: TS)).length) hD (by have := HIK.out (text2 :: TS); rw [List.length_cons, hsj] at this; exact this)
          have hcn2 : (K + 1) * (k + 1 + j) ≤ (K + 1) * ls.length := Nat.mul_le_mul_left _ (by omega)
          have hcn3 : D.length + 1 + K * (j + 1) ≤ (K + 1) * ls.length := by
            have := count_step (j := j) (x := K * (j + 1)) hD (Nat.le_refl _)
            omega
          have HC1 := Lib.hid hcnt
          have HC2 := Lib.hid hcn2
          have HC3 := Lib.hid hcn3
          have hND : X.length + D.length ≤ 50000000 := by have h1 := HNN.out; have h2 := HN2.out; have h3 := HXL.out; omega
          clear hi1 hi2 hst1 hst2 hfi hdl hj htj hsj hbq hTS hfin hkpt hdk hmx hwt2 hsz hcnt hcn2 hcn3 hD
          have f1 : ((sg2.toNat : Int) != (sg2.toNat : Int)) = false := by simp
          have hd2 : d + 2 ≤ 12 := by omega
          go_wp2_with fail
          refine cx.mono ?_
          rintro e w5 ⟨rfl, b5⟩
          have HK5 := Lib.hid (HKW.out.trans (Kpt.of b5 (by omega)))
          have HF5 := Lib.hid (HFin.out.below b5)
          have hs5 := b5.size
          clear b5 cx hcell
          go_wp2_with fail
          refine (cd _ (HDL.out.kept HK5.out).row).mono ?_
          rintro e w6 ⟨rfl, b6⟩
          have hf6 := HF5.out.below b6
          have HK6 := Lib.hid (HK5.out.trans (Kpt.of b6 (by omega)))
          have hs6 := b6.size
          have cpi := put_any B b v3 (X ++ D) (d + 1) ⟨5, 0, 0, false, [], []⟩ w6 (by omega) hf6 (by rw [List.length_append]; omega)
          simp only [blkV] at cpi
          clear b6 cd hf6
          go_wp2_with fail
          refine cpi.mono ?_
          rintro e w7 ⟨rfl, v7, hf7, hk7⟩
          have HF7 := Lib.hid hf7
          have HK7 := Lib.hid (HK6.out.trans hk7)
          have hs7 := hk7.size
          clear hf7 hk7 cpi
          go_wp2_with fail
          have hd7 : Below w7.heap.size w7 (w7.alloc (.cells #[.string ⟨text2.toArray⟩] 9)) := (Below.refl _ w7).alloc (Nat.le_refl _) _
          have hs7b := alloc_size w7 (.cells #[.string ⟨text2.toArray⟩] 9)
          have hlit : (w7.alloc (.cells #[.string ⟨text2.toArray⟩] 9)).ownsRow w7.heap.size 9 1 (.slice (some ⟨w7.heap.size, 0, none⟩) 1 1) 1 (strs [text2]) :=
            ⟨rfl, .inr ⟨w7.heap.size, 1, #[.string ⟨text2.toArray⟩], rfl, Nat.le_refl _, heap_alloc_new w7 _, Nat.le_refl _, by unfold maxLen; omega, rfl, rfl⟩⟩
          have hrw := HDL2.out _ (HDL.out.kept (HK7.out.trans (Kpt.of hd7 (by omega))))
          refine (csx _ hrw).mono ?_
          rintro e w8 ⟨v8, rfl, hown8, b8⟩
          obtain ⟨A8, c8, rfl, hr8, hn8⟩ := own_lines hown8
          have hlit8 := ownsRow_below hlit b8
          have hs8 := b8.size
          have HB78 := Lib.hid (hd7.trans (b8.mono (by omega)))
          clear hrw csx hown8 b8 hlit hd7
          go_wp2_with (at_builtin; refine append_strs rfl _ _ rfl w7.heap.size (.slice (some ⟨w7.heap.size, 0, none⟩) 1 1) [text2] rfl hlit8 A8 c8 TS ?hx hr8 hn8 ?h63 (by omega) ?_)
          case hx => rw [HTS.out]; rfl
          case h63 => rw [HTS.out]; simp; omega
          intro v9 w9 hown9 hgrow9
          rw [HTS.out] at hown9
          have b79 : Below w7.heap.size w7 w9 := HB78.out.trans (below_of_grown hgrow9 (fun g hg => (hlit8.lt g hg).1) (by omega))
          obtain ⟨A9, c9, rfl, hl9⟩ := Lns.own (B := B) hown9
          have hs9 := b79.size
          have hf9 := HF7.out.below b79
          have ca := HI.out B b v7 _ A9 c9 (text2 :: TS) w9 (by omega) hf9 hl9 HFI.out (by
            have h1 := HNN.out
            have h2 := HN2.out
            have h3 := HXL.out
            have h4 := HC3.out
            have h5 := HTS.out
            rw [List.length_append, List.length_append, List.length_cons, List.length_cons, List.length_nil, h5]
            omega)
          rw [show (text2 :: TS).length = j + 1 from by rw [List.length_cons, HTS.out]] at ca
          have HK9 := Lib.hid (HK7.out.trans (Kpt.of b79 (by omega)))
          clear b79 hown9 hgrow9 hlit8 hf9 hl9 hr8 hn8
          go_wp2_with fail
          refine ca.mono ?_
          rintro e w10 ⟨rfl, v10, hf10, hk10⟩
          have HF10 := Lib.hid hf10
          have HK10 := Lib.hid (HK9.out.trans hk10)
          have hs10 := hk10.size
          clear hf10 hk10 ca
          go_wp2_with fail
          refine (cbl _ (HDL3.out.kept HK10.out).row).mono ?_
          rintro e w11 ⟨rfl, b11⟩
          have HF11 := Lib.hid (HF10.out.below b11)
          have HK11 := Lib.hid (HK10.out.trans (Kpt.of b11 (by omega)))
          clear b11 cbl
          go_wp2
          go_roundw
          case rel =>
            refine ⟨k + 1 + j, k + 1 + j + q, D ++ (⟨5, d + 1, 0, false, [], []⟩ :: i (text2 :: TS)), v10, by go_num, by go_num, ⟨by omega, by omega, ?_, ?_, HK11.out, ?_, HS2.out⟩⟩
            · have h1 := HC1.out
              have h2 : (K + 1) * (k + 1 + j) ≤ (K + 1) * (k + 1 + j + q) := Nat.mul_le_mul_left _ (by omega)
              rw [List.length_append, List.length_cons]
              omega
            · have := HF11.out
              rw [List.append_assoc, List.append_assoc] at this
              exact this
            · rw [HS1.out]
              simp
          case measure => simp [intOf]; omega
        · have f1 : ((sg2.toNat : Int) != (sg.toNat : Int)) = true := by
            rw [bne_iff_ne]
            intro e
            exact hsg (UInt8.toNat_inj.1 (by omega))
          have hno := items_other d i sg ls.length x (ls.drop (k + 1)) hmx hsg
          rw [hdk, hno] at hst1 hst2
          rw [List.append_nil] at hst1
          have HD1 := Lib.hid hst1
          have HD2 := Lib.hid (show (itemsL d i sg ls.length ls).2 = n from hst2)
          have HFI := Lib.hid hfin
          clear hst1 hst2 hno hmx hdk hsz hwtx hkpt hfin hsg
          go_wp2_with fail
          refine cx.mono ?_
          rintro e w5 ⟨rfl, b5⟩
          have hfin := HFI.out.below b5
          have HKW := Lib.hid (HKW.out.trans (Kpt.of b5 (by omega)))
          have hs5 := b5.size
          clear b5 cx hcell
          have hXD : X ++ D = L ++ (⟨4, d, num, false, [], [sg]⟩ :: D) := by rw [HX.out]; simp
          rw [hXD] at hfin
          obtain ⟨M, hM⟩ : ∃ M, (L ++ ((⟨4, d, num, false, [], [sg]⟩ : Blk) :: D)).length = M := ⟨_, rfl⟩
          obtain ⟨g, capv, hve, hglt, hMc, hcm, hcg, hfg⟩ := hfin.flagCell hM
          have hncap : n ≤ cap := by omega
          have hLM : ((L.length : Nat) : Int) < (M : Int) := by rw [List.length_append, List.length_cons] at hM; omega
          have hrowW := (HL.out.kept HKW.out).row
          have HROW := Lib.hid hrowW
          have cc := fun W2 h2 => containsBlank_any (some ⟨b9, off, none⟩) cap (ls.take n) W2 h2 (HF.out.take n)
          have htl : (ls.take n).length = n := by rw [List.length_take]; omega
          rw [htl] at cc
          generalize hV : (ls.take n).any (fun s => s.all isGap) = vb at *
          have HV := Lib.hid hV
          subst hve
          have HFin := Lib.hid hfin
          have hc0 := hfin.c0
          have hblt := hfin.lt
          have HCG := Lib.hid (And.intro hcg hfg)
          have HM := Lib.hid hM
          clear hcg hfg hV hrowW hfin htl hM hXD
          go_wp2_with fail
          refine wp_region_N (fun W2 => W2.cell? ⟨b, 0, none⟩ = some (.slice (some ⟨g, 0, none⟩) M capv)) (fun j => decide (j < 10)) (by kernel_rfl) ?_
          have hS := hc0
          refine wpAnyN_take_at 0 99 (v := ?_) rfl rfl (by kernel_rfl) (by kernel_rfl) (by kernel_rfl) (by kernel_rfl) (by kernel_rfl) (fun _ _ _ h => h) (by rfl) ?_ hS ?_
          rotate_left
          · intro w hSw; (try dsimp only at hSw); go_simp; (try with_reducible rfl)
          simp only [Act.put, List.setIfInBounds_toArray, List.set_cons_zero, List.set_cons_succ]
          refine wpAnyN_take_at 1 100 (v := ?_) rfl rfl (by kernel_rfl) (by kernel_rfl) (by kernel_rfl) (by kernel_rfl) (by kernel_rfl) (fun _ _ _ h => h) (by rfl) ?_ hS ?_
          rotate_left
          · intro w hSw; (try dsimp only at hSw); go_simp; (try with_reducible rfl)
          simp only [Act.put, List.setIfInBounds_toArray, List.set_cons_zero, List.set_cons_succ]
          refine wpAnyN_take_at 2 101 (v := ?_) rfl rfl (by kernel_rfl) (by kernel_rfl) (by kernel_rfl) (by kernel_rfl) (by kernel_rfl) (fun _ _ _ h => h) (by rfl) ?_ hS ?_
          rotate_left
          · intro w hSw; (try dsimp only at hSw); go_simp; (try with_reducible rfl)
          simp only [Act.put, List.setIfInBounds_toArray, List.set_cons_zero, List.set_cons_succ]
          refine wpAnyN_take_at 3 102 (v := ?_) rfl rfl (by kernel_rfl) (by kernel_rfl) (by kernel_rfl) (by kernel_rfl) (by kernel_rfl) (fun _ _ _ h => h) (by rfl) ?_ hS ?_
          rotate_left
          · intro w hSw; (try dsimp only at hSw); go_simp; (try with_reducible rfl)
          simp only [Act.put, List.setIfInBounds_toArray, List.set_cons_zero, List.set_cons_succ]
          refine wpAnyN_take_at 4 103 (v := ?_) rfl rfl (by kernel_rfl) (by kernel_rfl) (by kernel_rfl) (by kernel_rfl) (by kernel_rfl) (fun _ _ _ h => h) (by rfl) ?_ hS ?_
          rotate_left
          · intro w hSw; (try dsimp only at hSw); go_simp; (try with_reducible rfl)
          simp only [Act.put, List.setIfInBounds_toArray, List.set_cons_zero, List.set_cons_succ]
          refine wpAnyN_take_at 5 104 (v := ?_) rfl rfl (by kernel_rfl) (by kernel_rfl) (by kernel_rfl) (by kernel_rfl) (by kernel_rfl) (fun _ _ _ h => h) (by rfl) ?_ hS ?_
          rotate_left
          · intro w hSw; (try dsimp only at hSw); go_simp; (try with_reducible rfl)
          simp only [Act.put, List.setIfInBounds_toArray, List.set_cons_zero, List.set_cons_succ]
          refine wpAnyN_take_at 6 105 (v := ?_) rfl rfl (by kernel_rfl) (by kernel_rfl) (by kernel_rfl) (by kernel_rfl) (by kernel_rfl) (fun _ _ _ h => h) (by rfl) ?_ hS ?_
          rotate_left
          · intro w hSw; (try dsimp only at hSw); go_simp; (try with_reducible rfl)
          simp only [Act.put, List.setIfInBounds_toArray, List.set_cons_zero, List.set_cons_succ]
          refine wpAnyN_take_at 7 106 (v := ?_) rfl rfl (by kernel_rfl) (by kernel_rfl) (by kernel_rfl) (by kernel_rfl) (by kernel_rfl) (fun _ _ _ h => h) (by rfl) ?_ hS ?_
          rotate_left
          · intro w hSw; (try dsimp only at hSw); go_simp; (try with_reducible rfl)
          simp only [Act.put, List.setIfInBounds_toArray, List.set_cons_zero, List.set_cons_succ]
          refine wpAnyN_one (i := 8) rfl (by kernel_rfl) (fun KK hKK => ?_)
          go_simp
          refine (cc w5.drew ((rowOf_heap (w' := w5.drew) rfl HROW.out).takeL n)).mono ?_
          rintro e w2 ⟨rfl, b2⟩
          have hb2 : Below w5.heap.size w5 w2 := ⟨b2.os, b2.tape, b2.output, b2.size, b2.block⟩
          refine hKK _ _ (fun _ => (hb2.cell (p := ⟨b, 0, none⟩) hblt).trans hc0) ?_
          have hS := (hb2.cell (p := ⟨b, 0, none⟩) hblt).trans hc0
          clear hKK
          refine wpAnyN_take_at 9 108 (v := ?_) rfl rfl (by kernel_rfl) (by kernel_rfl) (by kernel_rfl) (by kernel_rfl) (by kernel_rfl) (fun _ _ _ h => h) (by rfl) ?_ hS ?_
          rotate_left
          · intro w hSw; (try dsimp only at hSw); go_simp; (try with_reducible rfl)
          simp only [Act.put, List.setIfInBounds_toArray, List.set_cons_zero, List.set_cons_succ]
          refine wpAnyN_rest 10 [_, _, _] rfl (by kernel_rfl) (by kernel_rfl) ?_
          have hfin2 := HFin.out.below hb2
          have hcg2 := (hb2.cell (p := ⟨g, L.length * 6 + 3, none⟩) hglt).trans HCG.out.1
          have hfg2 : w2.frozen? ⟨g, L.length * 6 + 3, none⟩ = false := by
            obtain ⟨g', c', e', _, _, _, _, hf'⟩ := hfin2.flagCell HM.out
            cases e'
            exact hf'
          have HST := Lib.hid (hfin2.setFlag HM.out (!vb))
          have HKE := Lib.hid (HKW.out.trans (Kpt.of hb2 (by have := HKW.out.size; omega)))
          clear hfin2 b2 hb2 hS
          go_wp2
          go_ret
          exact ⟨by rw [HP2.out, HD2.out]; rfl, ⟨_, by rw [HP1.out, HD1.out, HD2.out, HV.out]; exact HST.out.1⟩, HKE.out.trans HST.out.2⟩
    · obtain rfl : k = ls.length := by omega
      rw [List.drop_length, items_end] at hst1 hst2
      rw [List.append_nil] at hst1
      have HD1 := Lib.hid hst1
      have HD2 := Lib.hid (show (itemsL d i sg ls.length ls).2 = n from hst2)
      clear hst1 hst2 hkpt
      have hXD : X ++ D = L ++ (⟨4, d, num, false, [], [sg]⟩ :: D) := by rw [HX.out]; simp
      rw [hXD] at hfin
      obtain ⟨M, hM⟩ : ∃ M, (L ++ ((⟨4, d, num, false, [], [sg]⟩ : Blk) :: D)).length = M := ⟨_, rfl⟩
      obtain ⟨g, capv, hve, hglt, hMc, hcm, hcg, hfg⟩ := hfin.flagCell hM
      have hncap : n ≤ cap := by omega
      have hLM : ((L.length : Nat) : Int) < (M : Int) := by rw [List.length_append, List.length_cons] at hM; omega
      have hrowW := (HL.out.kept HKW.out).row
      have HROW := Lib.hid hrowW
      have cc := fun W2 h2 => containsBlank_any (some ⟨b9, off, none⟩) cap (ls.take n) W2 h2 (HF.out.take n)
      have htl : (ls.take n).length = n := by rw [List.length_take]; omega
      rw [htl] at cc
      generalize hV : (ls.take n).any (fun s => s.all isGap) = vb at *
      have HV := Lib.hid hV
      subst hve
      have HFin := Lib.hid hfin
      have hc0 := hfin.c0
      have hblt := hfin.lt
      have HCG := Lib.hid (And.intro hcg hfg)
      have HM := Lib.hid hM
      clear hcg hfg hV hrowW hfin htl hM hXD
      go_wp2_with fail
      refine wp_region_N (fun W2 => W2.cell? ⟨b, 0, none⟩ = some (.slice (some ⟨g, 0, none⟩) M capv)) (fun j => decide (j < 10)) (by kernel_rfl) ?_
      have hS := hc0
      refine wpAnyN_take_at 0 99 (v := ?_) rfl rfl (by kernel_rfl) (by kernel_rfl) (by kernel_rfl) (by kernel_rfl) (by kernel_rfl) (fun _ _ _ h => h) (by rfl) ?_ hS ?_
      rotate_left
      · intro w hSw; (try dsimp only at hSw); go_simp; (try with_reducible rfl)
      simp only [Act.put, List.setIfInBounds_toArray, List.set_cons_zero, List.set_cons_succ]
      refine wpAnyN_take_at 1 100 (v := ?_) rfl rfl (by kernel_rfl) (by kernel_rfl) (by kernel_rfl) (by kernel_rfl) (by kernel_rfl) (fun _ _ _ h => h) (by rfl) ?_ hS ?_
      rotate_left
      · intro w hSw; (try dsimp only at hSw); go_simp; (try with_reducible rfl)
      simp only [Act.put, List.setIfInBounds_toArray, List.set_cons_zero, List.set_cons_succ]
      refine wpAnyN_take_at 2 101 (v := ?_) rfl rfl (by kernel_rfl) (by kernel_rfl) (by kernel_rfl) (by kernel_rfl) (by kernel_rfl) (fun _ _ _ h => h) (by rfl) ?_ hS ?_
      rotate_left
      · intro w hSw; (try dsimp only at hSw); go_simp; (try with_reducible rfl)
      simp only [Act.put, List.setIfInBounds_toArray, List.set_cons_zero, List.set_cons_succ]
      refine wpAnyN_take_at 3 102 (v := ?_) rfl rfl (by kernel_rfl) (by kernel_rfl) (by kernel_rfl) (by kernel_rfl) (by kernel_rfl) (fun _ _ _ h => h) (by rfl) ?_ hS ?_
      rotate_left
      · intro w hSw; (try dsimp only at hSw); go_simp; (try with_reducible rfl)
      simp only [Act.put, List.setIfInBounds_toArray, List.set_cons_zero, List.set_cons_succ]
      refine wpAnyN_take_at 4 103 (v := ?_) rfl rfl (by kernel_rfl) (by kernel_rfl) (by kernel_rfl) (by kernel_rfl) (by kernel_rfl) (fun _ _ _ h => h) (by rfl) ?_ hS ?_
      rotate_left
      · intro w hSw; (try dsimp only at hSw); go_simp; (try with_reducible rfl)
      simp only [Act.put, List.setIfInBounds_toArray, List.set_cons_zero, List.set_cons_succ]
      refine wpAnyN_take_at 5 104 (v := ?_) rfl rfl (by kernel_rfl) (by kernel_rfl) (by kernel_rfl) (by kernel_rfl) (by kernel_rfl) (fun _ _ _ h => h) (by rfl) ?_ hS ?_
      rotate_left
      · intro w hSw; (try dsimp only at hSw); go_simp; (try with_reducible rfl)
      simp only [Act.put, List.setIfInBounds_toArray, List.set_cons_zero, List.set_cons_succ]
      refine wpAnyN_take_at 6 105 (v := ?_) rfl rfl (by kernel_rfl) (by kernel_rfl) (by kernel_rfl) (by kernel_rfl) (by kernel_rfl) (fun _ _ _ h => h) (by rfl) ?_ hS ?_
      rotate_left
      · intro w hSw; (try dsimp only at hSw); go_simp; (try with_reducible rfl)
      simp only [Act.put, List.setIfInBounds_toArray, List.set_cons_zero, List.set_cons_succ]
      refine wpAnyN_take_at 7 106 (v := ?_) rfl rfl (by kernel_rfl) (by kernel_rfl) (by kernel_rfl) (by kernel_rfl) (by kernel_rfl) (fun _ _ _ h => h) (by rfl) ?_ hS ?_
      rotate_left
      · intro w hSw; (try dsimp only at hSw); go_simp; (try with_reducible rfl)
      simp only [Act.put, List.setIfInBounds_toArray, List.set_cons_zero, List.set_cons_succ]
      refine wpAnyN_one (i := 8) rfl (by kernel_rfl) (fun KK hKK => ?_)
      go_simp
      refine (cc wr.drew ((rowOf_heap (w' := wr.drew) rfl HROW.out).takeL n)).mono ?_
      rintro e w2 ⟨rfl, b2⟩
      have hb2 : Below wr.heap.size wr w2 := ⟨b2.os, b2.tape, b2.output, b2.size, b2.block⟩
      refine hKK _ _ (fun _ => (hb2.cell (p := ⟨b, 0, none⟩) hblt).trans hc0) ?_
      have hS := (hb2.cell (p := ⟨b, 0, none⟩) hblt).trans hc0
      clear hKK
      refine wpAnyN_take_at 9 108 (v := ?_) rfl rfl (by kernel_rfl) (by kernel_rfl) (by kernel_rfl) (by kernel_rfl) (by kernel_rfl) (fun _ _ _ h => h) (by rfl) ?_ hS ?_
      rotate_left
      · intro w hSw; (try dsimp only at hSw); go_simp; (try with_reducible rfl)
      simp only [Act.put, List.setIfInBounds_toArray, List.set_cons_zero, List.set_cons_succ]
      refine wpAnyN_rest 10 [_, _, _] rfl (by kernel_rfl) (by kernel_rfl) ?_
      have hfin2 := HFin.out.below hb2
      have hcg2 := (hb2.cell (p := ⟨g, L.length * 6 + 3, none⟩) hglt).trans HCG.out.1
      have hfg2 : w2.frozen? ⟨g, L.length * 6 + 3, none⟩ = false := by
        obtain ⟨g', c', e', _, _, _, _, hf'⟩ := hfin2.flagCell HM.out
        cases e'
        exact hf'
      have HST := Lib.hid (hfin2.setFlag HM.out (!vb))
      have HKE := Lib.hid (HKW.out.trans (Kpt.of hb2 (by have := HKW.out.size; omega)))
      clear hfin2 b2 hb2 hS
      go_wp2
      go_ret
      exact ⟨by rw [HP2.out, HD2.out]; rfl, ⟨_, by rw [HP1.out, HD1.out, HD2.out, HV.out]; exact HST.out.1⟩, HKE.out.trans HST.out.2⟩

end Go.Proofs.YtoleoigpijgboaaDoor
