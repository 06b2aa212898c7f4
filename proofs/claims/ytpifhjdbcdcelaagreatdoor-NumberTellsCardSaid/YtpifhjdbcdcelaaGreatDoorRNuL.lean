/- Texts joined: NuL. -/
import Derived.Test.YtpifhjdbcdcelaaGreatDoorQAD
import Derived.Test.YtpifhjdbcdcelaaGreatDoorQAE
import Derived.Test.YtpifhjdbcdcelaaGreatDoorQAG
namespace Go.Proofs.YtpifhjdbcdcelaaGreatDoor
open Go.RowKit
set_option linter.unusedSimpArgs false
set_option linter.unusedVariables false
set_option maxRecDepth 100000
def ntT (z1 : List ByteArray) (i : Nat) : ByteArray := z1.getD (i % z1.length) ByteArray.empty
def ntX (z0 : List Int) (z1 : List ByteArray) (k : Nat) : List Hdg := (List.range k).map fun i => ⟨z0.getD i 0, ntT z1 i⟩
theorem ntX_len (z0 : List Int) (z1 : List ByteArray) (k : Nat) : (ntX z0 z1 k).length = k := by simp [ntX]
theorem ntX_succ (z0 : List Int) (z1 : List ByteArray) (k : Nat) : ntX z0 z1 (k + 1) = ntX z0 z1 k ++ [⟨z0.getD k 0, ntT z1 k⟩] := by simp [ntX, List.range_succ]
theorem ntX_lv (z0 : List Int) (z1 : List ByteArray) : (ntX z0 z1 z0.length).map Hdg.lv = z0 := by
  apply List.ext_getElem
  · simp [ntX]
  · intro i h1 h2
    simp [ntX, h2]
structure NtSt (w7 wr : World) (hv lv : Value) (z0 : List Int) (z1 : List ByteArray) (k : Nat) : Prop where
  hd : wr.ownsRow w7.heap.size 41 2 hv k (flt hdC (ntX z0 z1 k))
  tx : wr.ownsRow w7.heap.size 9 1 lv k (strs ((ntX z0 z1 k).map hdT))
  sz : ∀ x ∈ ntX z0 z1 k, x.tx.size ≤ 100
  bel : Below w7.heap.size w7 wr
def NtRel (w7 : World) (z0 : List Int) (z1 : List ByteArray) (hv lv i : Value) (wr : World) : Prop :=
  ∃ (k : Nat) (h l : Value), h = hv ∧ l = lv ∧ i = .int .i64 k ∧ k ≤ z0.length ∧ NtSt w7 wr h l z0 z1 k
theorem nt_mod (k n : Nat) : (k : Int).tmod (n : Int) = ((k % n : Nat) : Int) := by
  rw [Int.tmod_eq_emod_of_nonneg (by omega)]
  rfl
set_option maxHeartbeats 16000000 in
theorem numberTells_walk (w : World) (h7 : Tabs w) (A0 : Option Addr) (c0 : Nat) (z0 : List Int) (r0 : RowOf w A0 c0 (z0.map (Value.int .i64))) (w0 : ∀ n ∈ z0, (Lit.int .i64 n).wf = true) (A1 : Option Addr) (c1 : Nat) (z1 : List ByteArray) (r1 : RowOf w A1 c1 (z1.map Value.string)) (w1 : ∀ s ∈ z1, s.size ≤ maxLen) :
    Calls Tryz.prog 3 #[.slice A0 z0.length c0, .slice A1 z1.length c1] w fun e w' => e = .returned (.bool true) ∧ Below w.heap.size w w' := by
  obtain ⟨i0, hi, hz0, hz1, hz2⟩ := info_parts infoHdg
  have CA := Lib.hid (alive17_any w)
  have hle : z0.length ≤ c0 := by have := r0.1; simpa using this
  have hcap := r0.2.1
  have hle1 : z1.length ≤ c1 := by have := r1.1; simpa using this
  have hcap1 := r1.2.1
  unfold maxLen at hcap hcap1
  have HW1 := Lib.hid w1
  clear w0 w1
  by_cases hz : 60 < z0.length ∨ z1.length = 0 ∨ 60 < z1.length
  · have hcase : 60 < z0.length ∨ (z0.length ≤ 60 ∧ z1.length = 0) ∨ (z0.length ≤ 60 ∧ 0 < z1.length ∧ 60 < z1.length) := by omega
    clear hz r0 r1 h7
    rcases hcase with h1 | ⟨h1, h2⟩ | ⟨h1, h2, h3⟩
    · go_enter Tryz.func3, Tryz.ntmps3
      go_wp2_with fail
      refine CA.out.mono ?_
      rintro e w1 ⟨rfl, b1⟩
      go_wp2
      go_ret
      exact ⟨rfl, b1⟩
    · obtain rfl := List.eq_nil_of_length_eq_zero h2
      have t1 : decide (60 < (z0.length : Int)) = false := by simp; omega
      clear h2
      go_enter Tryz.func3, Tryz.ntmps3
      go_wp2_with fail
      refine CA.out.mono ?_
      rintro e w1 ⟨rfl, b1⟩
      go_wp2
      go_ret
      exact ⟨rfl, b1⟩
    · have t1 : decide (60 < (z0.length : Int)) = false := by simp; omega
      have t2 : ((z1.length : Int) == 0) = false := by rw [beq_eq_false_iff_ne]; omega
      go_enter Tryz.func3, Tryz.ntmps3
      go_wp2_with fail
      refine CA.out.mono ?_
      rintro e w1 ⟨rfl, b1⟩
      go_wp2
      go_ret
      exact ⟨rfl, b1⟩
  have hn0 : z0.length ≤ 60 := by omega
  have hn1 : 0 < z1.length := by omega
  have hn2 : z1.length ≤ 60 := by omega
  have t1 : decide (60 < (z0.length : Int)) = false := by simp; omega
  have t2 : ((z1.length : Int) == 0) = false := by rw [beq_eq_false_iff_ne]; omega
  have t3 : decide (60 < (z1.length : Int)) = false := by simp; omega
  have t4 : ¬ (z1.length : Int) = 0 := by omega
  have R0 := Lib.hid r0
  have R1 := Lib.hid r1
  have HT := Lib.hid h7
  have hLl := allN_len z0
  have CL := Lib.hid (fun (W : World) (hb : Below w.heap.size w W) => lentInts_any A0 c0 z0 W (R0.out.below hb) (by omega))
  clear hz r0 r1 h7
  go_enter Tryz.func3, Tryz.ntmps3
  go_wp2_with fail
  refine CA.out.mono ?_
  rintro e w1 ⟨rfl, b1⟩
  have HQ1 := Lib.hid b1
  clear b1 CA
  go_wp2_with fail
  refine (CL.out w1 HQ1.out).mono ?_
  rintro e w2 ⟨gm, cm, rfl, hm, b2⟩
  have HQ2 := Lib.hid (HQ1.out.then b2)
  have HM2 := Lib.hid (own_low hm HQ1.out.size)
  clear hm b2 CL
  have hblk0 : (w2.alloc (Obj.cells (bookCells (.slice none 0 0) (.slice none 0 0)) 36)).heap[w2.heap.size]? = some (.cells (bookCells (.slice none 0 0) (.slice none 0 0)) 36 (0, 0)) := heap_alloc_new w2 _
  have HB3 := Lib.hid (BookIs.new (B := w.heap.size) hblk0 HQ2.out.size)
  have HQ3 := Lib.hid (HQ2.out.alloc HQ2.out.size (Obj.cells (bookCells (.slice none 0 0) (.slice none 0 0)) 36))
  have HM3 := Lib.hid (HM2.out.alloc (Obj.cells (bookCells (.slice none 0 0) (.slice none 0 0)) 36))
  have CAL := Lib.hid (fun (W : World) (hm : W.ownsRow w.heap.size 3 1 (.slice (some ⟨gm, 0, none⟩) (z0.length + 1) cm) (z0.length + 1) (ints (z0 ++ [-77]))) => (show Calls Tryz.prog 6 #[.slice (some ⟨gm, 0, none⟩) z0.length cm] W _ from by
    refine all_any (some ⟨gm, 0, none⟩) cm z0 W ?_ (by omega)
    obtain ⟨A9, c9, e9, h9, _⟩ := RowOf.own hm
    cases e9
    have h8 := h9.take z0.length
    rwa [show (ints (z0 ++ [-77])).take z0.length = z0.map (Value.int .i64) from by simp [ints]] at h8))
  clear hblk0 HM2
  go_wp2_with fail
  change Calls _ _ _ (w2.alloc (Obj.cells (bookCells (.slice none 0 0) (.slice none 0 0)) 36)) _
  generalize w2.heap.size = bk at *
  generalize w2.alloc (Obj.cells (bookCells (.slice none 0 0) (.slice none 0 0)) 36) = w3 at *
  refine (CAL.out w3 HM3.out).mono ?_
  rintro e w4 ⟨va, rfl, hva, b4⟩
  have HM4 := Lib.hid (ownsRow_below HM3.out b4)
  have HB4 := Lib.hid (HB3.out.below b4)
  have HQ4 := Lib.hid (HQ3.out.then b4)
  have HVA4 := Lib.hid hva
  clear hva b4
  go_wp2_with fail
  refine (CAL.out w4 HM4.out).mono ?_
  rintro e w5 ⟨vb, rfl, hvb, b5⟩
  have hva := ownsRow_below HVA4.out b5
  have hab := own_new HVA4.out hvb (Nat.le_refl _)
  generalize hL : allN z0 = L at *
  rw [← hLl] at hva hvb
  obtain ⟨Aa, ca, rfl, _, _⟩ := RowOf.own hva
  obtain ⟨Ab, cb, rfl, _, _⟩ := RowOf.own hvb
  have HM5 := Lib.hid (ownsRow_below HM4.out b5)
  have HB5 := Lib.hid (HB4.out.below b5)
  have HQ5 := Lib.hid (HQ4.out.then b5)
  have HVA5 := Lib.hid (own_low hva HQ3.out.size)
  have HVB5 := Lib.hid (own_low hvb HQ4.out.size)
  have HAB := Lib.hid hab
  have HL := Lib.hid hL
  have hLn : L.length ≤ 60 := by omega
  have HLl := Lib.hid hLl
  clear hva hvb b5 hab CAL HVA4 HM4 HB4 HM3 HB3 hL hLl
  go_wp2_with fail
  refine (texts_anyK w.heap.size bk _ _ [] [] [] Aa ca L w5 HQ5.out.size HB5.out HVA5.out (fun u hu => by simp at hu) (by simp) (by omega)).mono ?_
  rintro e w6 ⟨rfl, ⟨tv6, uv6, u1, hbk6, hu1⟩, hsk6, htk6, bb6⟩
  have HB6 := Lib.hid hbk6
  have HQ6 := Lib.hid (HQ5.out.trans bb6)
  have HVB6 := Lib.hid (hsk6.row HVB5.out)
  have HM6 := Lib.hid (htk6.row HM5.out (by decide))
  have HU1 := Lib.hid (show Apart (Value.slice Ab L.length cb) u1 from fun g hg hu => by have h1 := hu1 g hu; have h2 := (HVB5.out.lt g hg).2; omega)
  clear hbk6 hsk6 htk6 bb6 hu1 HB5 HVA5 HM5
  go_wp2_with fail
  refine (texts_anyK w.heap.size bk tv6 uv6 [.slice Aa L.length ca] [u1] [L] Ab cb L w6 HQ6.out.size HB6.out HVB6.out (fun u hu => by
    simp at hu
    rcases hu with rfl | rfl
    · exact HAB.out.symm
    · exact HU1.out) (by simp) (by omega)).mono ?_
  rintro e w7 ⟨rfl, ⟨tv7, uv7, u2, hbk7, _⟩, _, htk7, bb7⟩
  have HB7 := Lib.hid hbk7
  have HQ7 := Lib.hid (HQ6.out.trans bb7)
  have HM7 := Lib.hid (htk7.row HM6.out (by decide))
  have hs7 := HQ7.out.size
  clear hbk7 htk7 bb7 HB6 HVB6 HVB5 HM6 HU1 HAB
  go_wp2_with fail
  go_loopw [9, 10, 50] (fun hv lv i wr => NtRel w7 z0 z1 hv lv i wr) (fun _ _ i _ => z0.length - (intOf i).toNat)
  case atStart => exact ⟨0, _, _, rfl, rfl, rfl, Nat.zero_le _, ⟨World.ownsRow_nil _ _ _ _, World.ownsRow_nil _ _ _ _, by simp [ntX], Below.refl _ _⟩⟩
  case round =>
    obtain ⟨k, hv, lv, rfl, rfl, rfl, hk, hst⟩ := hrel
    have hbw := HQ7.out.then hst.bel
    by_cases hp : k < z0.length
    · obtain ⟨b0, o0, hA0, hb0, hc0⟩ := R0.out.at (by intro e; rw [List.map_eq_nil_iff] at e; rw [e] at hp; simp at hp)
      obtain ⟨b1, o1, hA1, hb1, hc1⟩ := R1.out.at (by intro e; rw [List.map_eq_nil_iff] at e; rw [e] at hn1; simp at hn1)
      subst hA0 hA1
      have hmod := nt_mod k z1.length
      have hj : k % z1.length < z1.length := Nat.mod_lt _ hn1
      have htT : ntT z1 k = z1[k % z1.length] := by unfold ntT; rw [List.getD_eq_getElem?_getD, List.getElem?_eq_getElem hj]; rfl
      have hsucc := ntX_succ z0 z1 k
      rw [htT, show z0.getD k 0 = z0[k] from by rw [List.getD_eq_getElem?_getD, List.getElem?_eq_getElem hp]; rfl] at hsucc
      have d0 : wr.cell? ⟨b0, o0 + k, none⟩ = some (.int .i64 z0[k]) := by
        have := (hbw.cell (p := ⟨b0, o0 + k, none⟩) hb0).trans (hc0 k (by simpa using hp))
        simpa using this
      have d1 : wr.cell? ⟨b1, o1 + k % z1.length, none⟩ = some (.string z1[k % z1.length]) := by
        have := (hbw.cell (p := ⟨b1, o1 + k % z1.length, none⟩) hb1).trans (hc1 (k % z1.length) (by simpa using hj))
        simpa using this
      have hxw := HW1.out _ (List.getElem_mem hj)
      generalize z1[k % z1.length] = x at *
      generalize k % z1.length = j at *
      generalize z0[k] = lev at *
      have hjI : (j : Int) < (z1.length : Int) := by omega
      unfold maxLen at hxw
      by_cases hx : 100 < x.size
      · have HBW := Lib.hid hbw
        clear hst hbw hc0 hc1 hsucc htT
        go_wp2
        go_ret
        exact ⟨rfl, HBW.out⟩
      · have hs := hst.bel.size
        have hnc := elt_cells wr (hdC ⟨lev, x⟩) 41
        have HA := Lib.hid (hst.hd.alloc (.cells (hdC ⟨lev, x⟩).toArray 41))
        have HX := Lib.hid (hst.tx.alloc (.cells (hdC ⟨lev, x⟩).toArray 41))
        have HBW := Lib.hid (hst.bel.alloc hs (.cells (hdC ⟨lev, x⟩).toArray 41))
        have HSZ := Lib.hid hst.sz
        have HSUC := Lib.hid hsucc
        have hxl := ntX_len z0 z1 k
        clear hst hbw hc0 hc1 hsucc htT
        go_wp2_with (at_builtin; refine wpList_append_own _ rfl _ _ 39 rfl w7.heap.size 41 i0 (.agg #[.int .i64 0, .string ByteArray.empty]) 2 24 Tryz.underlying39 hi hz0 hz1 hz2 rfl (by decide) _ k (flt hdC (ntX z0 z1 k)) rfl HA.out ⟨wr.heap.size, 0, none⟩ 1 1 (hdC ⟨lev, x⟩) rfl rfl hnc (hdC_one _) (by unfold maxLen; omega) (by omega) HBW.out.size ?_)
        intro v8 w8 hown8 hgr8 _
        have HX8 := Lib.hid ((HX.out.kept hgr8 (own_apart HX.out HA.out (by decide)).ne).alloc (.cells #[.string x] 9))
        have hb8 := HBW.out.trans (below_of_grown hgr8 (fun g hg => (HA.out.lt g hg).1) HBW.out.size)
        have HB8 := Lib.hid (hb8.alloc hb8.size (.cells #[.string x] 9))
        have HH8 := Lib.hid ((show w8.ownsRow w7.heap.size 41 2 v8 (k + 1) (flt hdC (ntX z0 z1 (k + 1))) from by
          rw [HSUC.out, flt_append, flt_one]
          exact hown8).alloc (.cells #[.string x] 9))
        have HLit := Lib.hid (show RowOf (w8.alloc (.cells #[.string x] 9)) (some ⟨w8.heap.size, 0, none⟩) 1 (strs [x.data.toList]) from by
          have e9 := rowOf_lit w8 9 (strs [x.data.toList]) (by show (1 : Nat) ≤ maxLen; decide)
          have e8 : (strs [x.data.toList]).toArray = #[.string x] := by show #[Value.string ⟨x.data.toList.toArray⟩] = _; rw [Lib.mk_data]
          rw [e8] at e9
          exact e9)
        have hll : ((ntX z0 z1 k).map hdT).length = k := by rw [List.length_map, hxl]
        clear hown8 hgr8 hb8 hnc HA HX HBW
        go_wp2_with (at_builtin; refine append_strs rfl _ _ rfl w7.heap.size lv ((ntX z0 z1 k).map hdT) (by rfl) (by rw [hll]; exact HX8.out) (some ⟨w8.heap.size, 0, none⟩) 1 [x.data.toList] rfl HLit.out (fun h => by cases h) (by rw [hll]; simp; omega) HB8.out.size ?_)
        intro v9 w9 hown9 hgr9
        have HX9 := Lib.hid (show w9.ownsRow w7.heap.size 9 1 v9 (k + 1) (strs ((ntX z0 z1 (k + 1)).map hdT)) from by
          rw [HSUC.out, List.map_append]
          (try rw [List.length_append, hll] at hown9)
          exact hown9)
        have HH9 := Lib.hid (HH8.out.kept hgr9 (own_apart HH8.out HX8.out (by decide)).ne)
        have HB9 := Lib.hid (HB8.out.trans (below_of_grown hgr9 (fun g hg => (HX8.out.lt g hg).1) HB8.out.size))
        have HZ9 := Lib.hid (show ∀ x ∈ ntX z0 z1 (k + 1), x.tx.size ≤ 100 from by
          rw [HSUC.out]
          intro y hy
          rcases List.mem_append.1 hy with hy | hy
          · exact HSZ.out y hy
          · obtain rfl : y = ⟨lev, x⟩ := by simpa using hy
            exact Nat.le_of_not_lt hx)
        clear hown9 hgr9
        go_wp2
        go_roundw
        case rel => exact ⟨k + 1, _, _, rfl, rfl, by go_num, by omega, ⟨HH9.out, HX9.out, HZ9.out, HB9.out⟩⟩
        case measure => simp [intOf]; omega
    · obtain rfl : k = z0.length := by omega
      have hX1 := ntX_len z0 z1 z0.length
      have hX2 := ntX_lv z0 z1
      have hh := hst.hd
      have htx := hst.tx
      have hsz := hst.sz
      have hbl := hst.bel
      clear hst
      generalize ntX z0 z1 z0.length = X at *
      have hSl := secL_len X
      rw [← hX1] at hh
      obtain ⟨Ah, ch, rfl, he⟩ := EltsAt.own hdC_length hh
      obtain ⟨Al, cl, rfl, hrl, _⟩ := RowOf.own htx
      have hleX := he.le
      have hcapX := he.cap
      unfold maxLen at hcapX
      have hlel := hrl.1
      have hcapl := hrl.2.1
      rw [strs_length, List.length_map] at hlel
      unfold maxLen at hcapl
      have CS := Lib.hid (fun (W : World) (hb : Below wr.heap.size wr W) => sections_any Ah ch X W (EltsAt.below he hb) (by omega) (fun x hx => by have := hsz x hx; omega))
      have HBL := Lib.hid hbl
      have HTX := Lib.hid htx
      have HSZ := Lib.hid hsz
      have HX2 := Lib.hid hX2
      have hX60 : X.length ≤ 60 := by omega
      have HX1 := Lib.hid hX1
      have HSl := Lib.hid hSl
      clear hh he hrl htx hbl hsz hX2 hbw hX1 hSl
      go_wp2_with fail
      refine (CS.out wr (Below.refl _ _)).mono ?_
      rintro e w9 ⟨vs1, rfl, hs1, b9⟩
      have HS9 := Lib.hid hs1
      have HB9 := Lib.hid b9
      clear hs1 b9
      go_wp2_with fail
      refine (CS.out w9 HB9.out).mono ?_
      rintro e w10 ⟨vs2, rfl, hs2, b10⟩
      have hs1 := ownsRow_below HS9.out b10
      have hap := own_new HS9.out hs2 (Nat.le_refl _)
      generalize hS : secL X = S at *
      rw [← HSl.out] at hs1 hs2
      obtain ⟨As, cs, rfl, _⟩ := EltsAt.own scC_length hs1
      obtain ⟨Ar, cr, rfl, _⟩ := EltsAt.own scC_length hs2
      have HW9 := Lib.hid (HBL.out.then HB9.out)
      have HW10 := Lib.hid ((HBL.out.then HB9.out).then b10)
      have hlow9 : w.heap.size ≤ wr.heap.size := by have := HBL.out.size; omega
      have hlow10 : w.heap.size ≤ w9.heap.size := by have := HW9.out.size; omega
      have HQ10 := Lib.hid (HQ7.out.then HW10.out)
      have HT10 := Lib.hid (HB7.out.below HW10.out)
      have HM10 := Lib.hid (ownsRow_below HM7.out HW10.out)
      have HTX10 := Lib.hid (ownsRow_below HTX.out (HB9.out.then b10))
      have HS10 := Lib.hid (own_low hs1 hlow9)
      have HR10 := Lib.hid (own_low hs2 hlow10)
      have HAP := Lib.hid hap
      have HSS := Lib.hid hS
      have HSB := Lib.hid (show SBookIs w10 w.heap.size bk (.slice none 0 0) (.slice none 0 0) [] [] [] (rT tv7 uv7) from SBookIs.new (by rw [nil_cells]; exact HT10.out.blk) HT10.out.base)
      have hSn : S.length ≤ 60 := by have := HSl.out; omega
      clear hs1 hs2 hap hS b10 CS HS9 HB9 HB7 HM7 HTX
      go_wp2_with fail
      refine (secs_anyK w.heap.size bk _ _ [] [] [] As cs S w10 HQ10.out.size HSB.out HS10.out (fun u hu => by simp at hu) (by simp) (by omega)).mono ?_
      rintro e w11 ⟨rfl, ⟨tv11, uv11, u1, hbk11, hu1⟩, hsk11, htk11, bb11⟩
      have HSB11 := Lib.hid hbk11
      have HQ11 := Lib.hid (HQ10.out.trans bb11)
      have HR11 := Lib.hid (hsk11.row HR10.out)
      have HTK11 := Lib.hid htk11
      have HU1 := Lib.hid (show Apart (Value.slice Ar S.length cr) u1 from fun g hg hu => by have h1 := hu1 g hu; have h2 := (HR10.out.lt g hg).2; omega)
      clear hbk11 hsk11 htk11 bb11 hu1 HSB
      go_wp2_with fail
      refine (secs_anyK w.heap.size bk tv11 uv11 [.slice As S.length cs] [u1] [S] Ar cr S w11 HQ11.out.size HSB11.out HR11.out (fun u hu => by
        simp at hu
        rcases hu with rfl | rfl
        · exact HAP.out.symm
        · exact HU1.out) (by simp) (by omega)).mono ?_
      rintro e w12 ⟨rfl, ⟨tv12, uv12, u2, hbk12, _⟩, _, htk12, bb12⟩
      have HSB12 := Lib.hid hbk12
      have HQ12 := Lib.hid (HQ11.out.trans bb12)
      have tk := HTK11.out.trans htk12
      have HT12 := Lib.hid (HT10.out.reblk tk (hbk12.blk.trans (by rw [two_cells])))
      have hm12 := tk.row HM10.out (by decide)
      have htx12 := tk.row HTX10.out (by decide)
      have hrm : RowOf w12 (some ⟨gm, 0, none⟩) cm (ints (z0 ++ [-77])) := by
        obtain ⟨A9, c9, e9, h9, _⟩ := RowOf.own hm12
        cases e9
        exact h9
      have hrl : RowOf w12 Al cl (strs (X.map hdT)) := by
        obtain ⟨A9, c9, e9, h9, _⟩ := RowOf.own htx12
        cases e9
        exact h9
      have hra : RowOf w12 Aa ca (strs L) := by
        obtain ⟨Ax, cx, ex, hr, _⟩ := RowOf.own (HT12.out.tl.2 0 (.slice Aa L.length ca) L rfl rfl)
        cases ex; exact hr
      have hrb : RowOf w12 Ab cb (strs L) := by
        obtain ⟨Ax, cx, ex, hr, _⟩ := RowOf.own (HT12.out.tl.2 1 (.slice Ab L.length cb) L rfl rfl)
        cases ex; exact hr
      have hrs : SecsAt w12 As cs S := by
        obtain ⟨Ax, cx, ex, hr⟩ := EltsAt.own scC_length (HSB12.out.tl.2 0 (.slice As S.length cs) S rfl rfl)
        cases ex; exact hr
      have hrr : SecsAt w12 Ar cr S := by
        obtain ⟨Ax, cx, ex, hr⟩ := EltsAt.own scC_length (HSB12.out.tl.2 1 (.slice Ar S.length cr) S rfl rfl)
        cases ex; exact hr
      have hri := R0.out.below HQ12.out
      have cn := refNumbers_any A0 c0 z0 w12 hri (by omega)
      have CN := Lib.hid cn
      have hsame := fun (A B : Option Addr) (p q : Nat) (W : World) (ha : RowOf W A p (strs L)) (hb : RowOf W B q (strs L)) => (show Calls Tryz.prog 10 #[.slice A L.length p, .slice B L.length q] W (QuietBool W true) from by
        have := same_any A B p q L L W ha hb
        rwa [decide_eq_true (rfl : L = L)] at this)
      have C3 := Lib.hid (fun (W : World) (hb : Below w12.heap.size w12 W) => hsame Aa Ab ca cb W (hra.below hb) (hrb.below hb))
      have C2 := Lib.hid (fun (W : World) (hb : Below w12.heap.size w12 W) (A9 : Option Addr) (c9 : Nat) (h9 : RowOf W A9 c9 (strs L)) => hsame Aa A9 ca c9 W (hra.below hb) h9)
      have C4 := Lib.hid (fun (W : World) (hb : Below w12.heap.size w12 W) => staysInts_any gm cm A0 c0 z0 W (hrm.below hb) (hri.below hb) (by omega))
      have C5 := Lib.hid (fun (W : World) (hb : Below w12.heap.size w12 W) => (show Calls Tryz.prog 14 #[.slice A0 z0.length c0, .slice Al z0.length cl] W _ from by
        have := refSections_any A0 Al c0 cl X W (by rw [HX2.out]; exact hri.below hb) (hrl.below hb) hX60 (fun x hx => by have := HSZ.out x hx; omega) ((HT.out.below HQ12.out).below hb)
        rw [HX1.out] at this
        exact this))
      have C6 := Lib.hid (fun (W : World) (hb : Below w12.heap.size w12 W) (A9 : Option Addr) (c9 : Nat) (h9 : SecsAt W A9 c9 S) => sameSecs_same As A9 cs c9 S W (EltsAt.below hrs hb) h9)
      have C7 := Lib.hid (fun (W : World) (hb : Below w12.heap.size w12 W) => sameSecs_same As Ar cs cr S W (EltsAt.below hrs hb) (EltsAt.below hrr hb))
      have C8 := Lib.hid (fun (W : World) (hb : Below w12.heap.size w12 W) => apartTS_any w.heap.size bk tv7 uv7 tv12 uv12 _ _ _ _ _ _ W (by have h1 := HQ12.out.size; have h2 := hb.size; omega) (HT12.out.below hb) (HSB12.out.below hb) (by simp) (by simp) (fun ls h => by simp at h; rcases h with rfl | rfl <;> omega) (fun ls h => by simp at h; rcases h with rfl | rfl <;> omega))
      clear hbk12 htk12 bb12 tk hm12 htx12 hrm hrl hra hrb hrs hrr hri cn hsame
      go_wp2_with fail
      refine CN.out.mono ?_
      rintro e w13 ⟨v13, rfl, hv13, b13⟩
      rw [HL.out, ← HLl.out] at hv13
      obtain ⟨A13, c13, rfl, hr13, _⟩ := RowOf.own hv13
      have c2 := C2.out w13 b13 A13 c13 hr13
      have C2' := Lib.hid c2
      have HX13 := Lib.hid b13
      clear hv13 hr13 b13 c2 CN C2
      go_wp2_with fail
      refine C2'.out.mono ?_
      rintro e w' ⟨rfl, n14, rfl⟩
      have HX14 := Lib.hid (below_drewN' HX13.out n14)
      generalize w13.drewN n14 = w14 at *
      have c3 := C3.out w14 HX14.out
      have C3' := Lib.hid c3
      clear c3 C3 C2' HX13
      go_wp2_with fail
      refine C3'.out.mono ?_
      rintro e w' ⟨rfl, n15, rfl⟩
      have HX15 := Lib.hid (below_drewN' HX14.out n15)
      generalize w14.drewN n15 = w15 at *
      clear C3' HX14
      go_wp2_with fail
      refine (C4.out w15 HX15.out).mono ?_
      rintro e w' ⟨rfl, n16, rfl⟩
      have HX16 := Lib.hid (below_drewN' HX15.out n16)
      generalize w15.drewN n16 = w16 at *
      clear C4 HX15
      go_wp2_with fail
      refine (C5.out w16 HX16.out).mono ?_
      rintro e w17 ⟨v17, rfl, hv17, b17⟩
      have HX17 := Lib.hid (HX16.out.then b17)
      rw [HSS.out, ← HX1.out, ← HSl.out] at hv17
      obtain ⟨A17, c17, rfl, hr17⟩ := EltsAt.own scC_length hv17
      have C6' := Lib.hid (C6.out w17 HX17.out A17 c17 hr17)
      clear hv17 hr17 b17 C5 C6 HX16
      go_wp2_with fail
      refine C6'.out.mono ?_
      rintro e w' ⟨rfl, n18, rfl⟩
      have HX18 := Lib.hid (below_drewN' HX17.out n18)
      generalize w17.drewN n18 = w18 at *
      clear C6' HX17
      go_wp2_with fail
      refine (C7.out w18 HX18.out).mono ?_
      rintro e w' ⟨rfl, n19, rfl⟩
      have HX19 := Lib.hid (below_drewN' HX18.out n19)
      generalize w18.drewN n19 = w19 at *
      clear C7 HX18
      go_wp2_with fail
      refine (C8.out w19 HX19.out).mono ?_
      rintro e w20 ⟨rfl, b20⟩
      go_wp2
      go_ret
      exact ⟨rfl, (HQ12.out.then HX19.out).trans b20⟩
end Go.Proofs.YtpifhjdbcdcelaaGreatDoor
