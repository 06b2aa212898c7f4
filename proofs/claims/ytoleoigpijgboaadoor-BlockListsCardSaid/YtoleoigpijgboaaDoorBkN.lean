/-
  BlockLists: items of one sign are one list; of another one another; the first number is its number: the law's walk.
-/
import Derived.Test.YtoleoigpijgboaaDoorBkE
import Derived.Test.YtoleoigpijgboaaDoorBkT
import Derived.Laws.BytesArg
import Derived.Laws.IdiomStrings
namespace Go.Proofs.YtoleoigpijgboaaDoor
open Go.RowKit
set_option linter.unusedSimpArgs false
set_option linter.unusedVariables false
set_option maxRecDepth 100000

theorem conv_one (w : World) (v : Int) (h0 : 0 ≤ v) (h1 : v ≤ 255) :
    (convert 36 9 (.slice (some ⟨w.heap.size, 0, none⟩) 1 1)).run Tryd.prog (w.alloc (.cells #[.int .u8 v] 5)) = .ok (.string ⟨#[v.toNat.toUInt8]⟩) (w.alloc (.cells #[.int .u8 v] 5)) := by
  exact run_convert_bytes_back (w.alloc (.cells #[.int .u8 v] 5)) 36 9 5 ⟨w.heap.size, 0, none⟩ 1 [v.toNat.toUInt8] Tryd.underlying36 Tryd.underlying5 Tryd.underlying9 (fun j hj => by
    simp only [List.length_cons, List.length_nil] at hj
    obtain rfl : j = 0 := by omega
    have e : ((v.toNat.toUInt8).toNat : Int) = v := by
      rw [Nat.toUInt8_eq, UInt8.toNat_ofNat']
      omega
    show _ = some (Value.int .u8 ((v.toNat.toUInt8).toNat : Int))
    rw [e]
    simp [Addr.add])
theorem below_one {B : Nat} {w0 w : World} (h : Below B w0 w) (hB : B ≤ w.heap.size) (o : Obj) : Below B w0 (w.alloc o) := h.alloc hB o
/-- The digits of a number, from its end on. -/
def DgRel (V : Nat) (w : World) (zd zv : Value) (wr : World) : Prop := ∃ (f v : Nat) (D : ByteArray), zv = .int .i64 v ∧ zd = .string D ∧ dgF f v D.data.toList = dgL V ∧ v < 10 ^ f ∧ f + D.size = 6 ∧ Below w.heap.size w wr
theorem dg_more {f v V : Nat} {D : ByteArray} (h : dgF f v D.data.toList = dgL V) (hv : v < 10 ^ f) (hf : f + D.size = 6) (hc : 0 < v ∨ D.size = 0) :
    ∃ g, dgF g (v / 10) ((⟨#[48 + UInt8.ofNat (v % 10)]⟩ : ByteArray) ++ D).data.toList = dgL V ∧ v / 10 < 10 ^ g ∧ g + ((⟨#[48 + UInt8.ofNat (v % 10)]⟩ : ByteArray) ++ D).size = 6 := by
  have hsz : ((⟨#[48 + UInt8.ofNat (v % 10)]⟩ : ByteArray) ++ D).size = 1 + D.size := by rw [ByteArray.size_append]; rfl
  cases f with
  | zero =>
    exfalso
    rcases hc with h | h
    · simp at hv; omega
    · omega
  | succ g =>
    refine ⟨g, ?_, ?_, by omega⟩
    · have hcond : 0 < v ∨ D.data.toList = [] := by
        rcases hc with h | h
        · exact Or.inl h
        · exact Or.inr (List.eq_nil_of_length_eq_zero (by simpa using h))
      rw [dgF, if_pos hcond] at h
      rw [← h, ByteArray.data_append, Array.toList_append, UInt8.ofNat_add]
      rfl
    · rw [Nat.pow_succ] at hv
      omega
theorem dg_done {f V : Nat} {D : ByteArray} (h : dgF f 0 D.data.toList = dgL V) (hD : 0 < D.size) : D.data.toList = dgL V := by
  cases f with
  | zero => exact h
  | succ g =>
    rw [dgF, if_neg] at h
    · exact h
    · rintro (h2 | h2)
      · omega
      · have hl : D.data.toList.length = D.size := by simp
        rw [h2, List.length_nil] at hl
        omega
theorem row_text {D : ByteArray} {V : Nat} {sg : UInt8} (h : D.data.toList = dgL V) : ((D ++ (⟨#[sg]⟩ : ByteArray)) ++ (⟨#[32, 120]⟩ : ByteArray)).data.toList = rowN sg V := by
  rw [ByteArray.data_append, Array.toList_append, ByteArray.data_append, Array.toList_append, h, rowN, List.append_assoc]
  rfl
def LsRel (n fr : Nat) (bl ot : Bool) (w1 : World) (z9 z10 : Value) (wr : World) : Prop :=
  ∃ k : Nat, z10 = .int .i64 k ∧ k ≤ n ∧ wr.ownsRow w1.heap.size 9 1 z9 (lawL n fr bl ot k).length (strs (lawL n fr bl ot k)) ∧ Below w1.heap.size w1 wr
def KnRel (bs : List Blk) (w : World) (z15 z16 z17 z85 : Value) (wr : World) : Prop :=
  ∃ k : Nat, z85 = .int .i64 k ∧ k ≤ bs.length ∧ z15 = .int .i64 (kinds 4 (bs.take k)) ∧ z16 = .int .i64 (kinds 5 (bs.take k)) ∧ z17 = .int .i64 (kinds 1 (bs.take k)) ∧ wr = w
theorem kinds_le (c : Int) (bs : List Blk) (k : Nat) : kinds c (bs.take k) ≤ k := by
  unfold kinds
  have h1 := List.length_filter_le (fun b : Blk => b.kind == c) (bs.take k)
  rw [List.length_take] at h1
  omega
theorem kinds_step {bs : List Blk} {k : Nat} (hk : k < bs.length) (c : Int) : kinds c (bs.take (k + 1)) = kinds c (bs.take k) + (if bs[k].kind = c then 1 else 0) := by
  rw [List.take_succ_eq_append_getElem hk, kinds_append]
  unfold kinds
  congr 1
  by_cases h : bs[k].kind = c
  · simp [h]
  · simp [h]
theorem few_law (n fr : Nat) (bl ot : Bool) (h15 : n ≤ 15) (hfr : fr ≤ 999) : Few (lawL n fr bl ot n) := by
  have hbl : (blk1 bl).length ≤ 1 := by cases bl <;> decide
  refine ⟨by rw [lawL_len]; have := Nat.mul_le_mul_left n (show 1 + (blk1 bl).length ≤ 2 by omega); omega, fun x hx => ?_⟩
  unfold lawL at hx
  obtain ⟨j, hj, hx⟩ := List.mem_flatMap.1 hx
  have hj2 := List.mem_range.1 hj
  rcases List.mem_cons.1 hx with rfl | hx
  · have hi := item_row (sg := if (ot && decide (j + 1 = n)) = true then 41 else 46) (by split <;> simp) (show fr + j < 1014 by omega)
    have h1 := wt_le (rowN (if (ot && decide (j + 1 = n)) = true then 41 else 46) (fr + j))
    have h2 := hi.four
    simp only [rowN, List.length_append, List.length_cons, List.length_nil] at h1
    unfold rowN
    omega
  · cases bl with
    | false => simp [blk1] at hx
    | true => simp [blk1] at hx; subst hx; decide

set_option maxHeartbeats 16000000 in
theorem blockLists_ns (w : World) (n fr : Nat) (h1 : 1 ≤ n) (h15 : n ≤ 15) (hfr : fr ≤ 999) :
    Calls Tryd.prog 8 #[.int .i64 n, .int .i64 fr, .bool false, .bool false] w fun e w' => e = .returned (.bool true) ∧ Below w.heap.size w w' := by
  obtain ⟨i0, hi, hz0, hz1, hz2⟩ := info_parts infoString
  have hf1 : decide ((n : Int) < 1) = false := by simp; omega
  have hf2 : decide ((15 : Int) < (n : Int)) = false := by simp; omega
  have hf3 : decide ((fr : Int) < 0) = false := by simp <;> omega
  have hf4 : decide ((999 : Int) < (fr : Int)) = false := by simp; omega
  have HOk := Lib.hid (law_ok n fr false false h1 h15 hfr)
  have HFew := Lib.hid (few_law n fr false false h15 hfr)
  go_enter Tryd.func8, Tryd.ntmps8
  go_wp2_with fail
  refine (alive9_any _).mono ?_
  rintro e w1 ⟨rfl, b1⟩
  have HB1 := Lib.hid b1
  clear b1 hf1 hf2 hf3 hf4
  go_wp2_with fail
  go_loopw [9, 10] (fun z9 z10 wr => LsRel n fr false false w1 z9 z10 wr) (fun _ z10 _ => n - (intOf z10).toNat)
  case atStart => exact ⟨0, rfl, Nat.zero_le _, World.ownsRow_nil _ _ _ _, Below.refl _ _⟩
  case round =>
    obtain ⟨k, rfl, hk, hown, hbw⟩ := hrel
    have hss := hbw.size
    by_cases hp : k < n
    · have HO := Lib.hid hown
      have HBW := Lib.hid hbw
      have hlen := lawL_len n fr false false k
      have hl2 : (lawL n fr false false k).length ≤ 30 := by
        rw [hlen]
        have := Nat.mul_le_mul hk (show 1 + (blk1 false).length ≤ 2 by decide)
        omega
      clear hown hbw hlen
      rename World => w2
      go_wp2_with fail
      go_loopw [11, 12] (fun zd zv wr => DgRel (fr + k) w2 zd zv wr) (fun zd zv _ => (intOf zv).toNat + (if Lib.strSize zd = 0 then 1 else 0))
      case atStart => exact ⟨6, fr + k, ⟨#[]⟩, by go_num, rfl, rfl, by omega, rfl, Below.refl _ _⟩
      case round =>
        obtain ⟨f, v, D, rfl, rfl, hD, hvf, hfD, hb2⟩ := hrel
        have hs2 := hb2.size
        have hD6 : D.size ≤ 6 := by omega
        have hv6 : v < 1000000 := Nat.lt_of_lt_of_le hvf (by
          have := Nat.pow_le_pow_right (n := 10) (by omega) (show f ≤ 6 by omega)
          simpa using this)
        by_cases hc : 0 < v ∨ D.size = 0
        · obtain ⟨g, hm1, hm2, hm3⟩ := dg_more hD hvf hfD hc
          have HM1 := Lib.hid hm1
          have HM2 := Lib.hid hm2
          have HM3 := Lib.hid hm3
          have HB2 := Lib.hid hb2
          clear hD hvf hfD hm1 hm2 hm3 hb2
          have k0 := fun W => run_string_add_sum (P := Tryd.prog) W (⟨#[(48 + (v : Int) % 10).toNat.toUInt8]⟩ : ByteArray) D (by show 1 + _ ≤ _; omega)
          have hom : ((⟨#[48 + UInt8.ofNat (v % 10)]⟩ : ByteArray) ++ D).size = 1 + D.size := by rw [ByteArray.size_append]; rfl
          have HOM := Lib.hid hom
          clear hom
          by_cases hv0 : 0 < v
          · have hcv := conv_one wr (48 + (v : Int) % 10) (by omega) (by omega)
            have f0 : decide ((0 : Int) < (v : Int)) = true := by simp; omega
            clear hc
            go_wp2
            refine ⟨⟨g, v / 10, _, by go_num, rfl, HM1.out, HM2.out, HM3.out, below_one HB2.out hs2 _⟩, ?_⟩
            rw [Lib.strSize_string, HOM.out, if_neg (by omega), Lib.strSize_string]
            simp only [intOf]
            split <;> omega
          · obtain rfl : v = 0 := by omega
            have hD0 : D.size = 0 := by omega
            have hnl : D.data.toList = [] := List.eq_nil_of_length_eq_zero (by simpa using hD0)
            have hde : D.toList.isEmpty = true := by rw [ByteArray.toList_eq, hnl]; rfl
            have hcv : (convert 36 9 (.slice (some ⟨wr.heap.size, 0, none⟩) 1 1)).run Tryd.prog (wr.alloc (.cells #[.int .u8 48] 5)) = .ok (.string ⟨#[48]⟩) (wr.alloc (.cells #[.int .u8 48] 5)) := conv_one wr 48 (by decide) (by decide)
            have k1 := fun W => run_string_add_sum (P := Tryd.prog) W (⟨#[48]⟩ : ByteArray) D (by show 1 + _ ≤ _; omega)
            have HD0 := Lib.hid hD0
            clear hc hv0 hnl hD0 k0
            go_wp2
            refine ⟨⟨g, 0, _, rfl, rfl, HM1.out, HM2.out, HM3.out, below_one HB2.out hs2 _⟩, ?_⟩
            rw [Lib.strSize_string, show ((⟨#[48]⟩ : ByteArray) ++ D).size = 1 + D.size from HOM.out, if_neg (by omega), Lib.strSize_string, if_pos HD0.out]
            simp [intOf]
        · obtain rfl : v = 0 := by omega
          have hD1 : 0 < D.size := by omega
          have hde := toList_empty hD1
          have hDl := dg_done hD hD1
          have HDL := Lib.hid hDl
          have HB2 := Lib.hid (HBW.out.trans (hb2.mono hss))
          have HO2 := Lib.hid (ownsRow_below HO.out hb2)
          have hsw : w1.heap.size ≤ wr.heap.size := by omega
          clear hD hvf hfD hb2 hDl hc
          have HSucc := Lib.hid (show lawL n fr false false (k + 1) = lawL n fr false false k ++ (rowN 46 (fr + k) :: blk1 false) from by rw [lawL_succ]; rfl)
          have hk1 : k + 1 ≤ n := by omega
          have z1 : (D ++ (⟨#[46]⟩ : ByteArray)).size ≤ 7 := by rw [ByteArray.size_append]; show _ + 1 ≤ _; omega
          have k1 := fun W => run_string_add_sum (P := Tryd.prog) W D (⟨#[46]⟩ : ByteArray) (by show _ + 1 ≤ _; omega)
          have k2 := fun W => run_string_add_sum (P := Tryd.prog) W (D ++ (⟨#[46]⟩ : ByteArray)) (⟨#[32, 120]⟩ : ByteArray) (by show _ + 2 ≤ _; omega)
          have HTx := Lib.hid (row_text (sg := 46) HDL.out)
          obtain ⟨Y, hY⟩ : ∃ Y, (D ++ (⟨#[46]⟩ : ByteArray)) ++ (⟨#[32, 120]⟩ : ByteArray) = Y := ⟨_, rfl⟩
          rw [hY] at k2 HTx
          have hnw := cells_one wr (.string Y) 9
          have hrow2 := HO2.out.alloc (.cells #[.string Y] 9)
          clear hY hp
          go_wp2_with (at_builtin; refine wpList_append_own _ rfl _ _ 22 rfl w1.heap.size 9 i0 (.string ByteArray.empty) 1 16 Tryd.underlying22 hi hz0 hz1 hz2 rfl (by decide) _ _ _ rfl hrow2 ⟨wr.heap.size, 0, none⟩ 1 1 [.string Y] rfl rfl hnw (by simp [Value.oneCell']) (by unfold maxLen; omega) (by omega) (by simp; omega) ?_)
          intro v' w3 hown' hgrow _
          have HB3 := Lib.hid ((HB2.out.alloc hsw (.cells #[.string Y] 9)).trans (below_of_grown hgrow (fun g hg => (hrow2.lt g hg).1) (by simp; omega)))
          have hs3 := HB3.out.size
          have HO3 := Lib.hid (show w3.ownsRow w1.heap.size 9 1 v' ((lawL n fr false false k).length + 1) (strs (lawL n fr false false k ++ [rowN 46 (fr + k)])) from by
            rw [strs_append, strs_one, text_is HTx.out]
            exact hown')
          clear hown' hgrow hrow2 hnw
          have HB4 := HB3
          have HO4 := Lib.hid (show w3.ownsRow w1.heap.size 9 1 v' (lawL n fr false false (k + 1)).length (strs (lawL n fr false false (k + 1))) from by
            rw [HSucc.out, show rowN 46 (fr + k) :: blk1 false = [rowN 46 (fr + k)] from rfl, List.length_append]
            exact HO3.out)
          go_wp2
          first
            | (go_roundw
               case rel => exact ⟨k + 1, by go_num, by omega, HO4.out, HB4.out⟩
               case measure => simp [intOf]; omega)
            | exact ⟨⟨k + 1, by go_num, by omega, HO4.out, HB4.out⟩, by simp [intOf]; omega⟩
    · obtain rfl : k = n := by omega
      obtain ⟨A3, c3, rfl, hr3, _⟩ := RowOf.own hown
      have cp := bparse_any A3 c3 (lawL k fr false false k) wr hr3 HFew.out
      have HBW := Lib.hid (HB1.out.then hbw)
      have hll := hr3.strs_le
      clear hown hbw hr3
      go_wp2_with fail
      refine cp.mono ?_
      rintro e w3 ⟨v3, rfl, hown3, b3⟩
      obtain ⟨A4, c4, rfl, hat⟩ := BlksAt.own hown3
      have HB3 := Lib.hid (HBW.out.then b3)
      have HAt := Lib.hid hat
      have hle := hat.le
      have hcm := hat.cap
      have hpl : (parseB (lawL k fr false false k)).length ≤ 2600000 := by
        have h1 := (firstM_count 12).1 (lawL k fr false false k)
        have h2 := Nat.mul_le_mul_left (2 * 12 + 2) HFew.out.len
        show (allL 12 (lawL k fr false false k)).length ≤ _
        omega
      unfold maxLen at hcm
      generalize parseB (lawL k fr false false k) = bs at *
      clear hown3 b3 cp hat hll
      go_wp2_with fail
      go_loopw [15, 16, 17, 85] (fun z15 z16 z17 z85 wr => KnRel bs w3 z15 z16 z17 z85 wr) (fun _ _ _ z85 _ => bs.length - (intOf z85).toNat)
      case atStart => exact ⟨0, rfl, Nat.zero_le _, rfl, rfl, rfl, rfl⟩
      case round =>
        obtain ⟨q, rfl, hq, rfl, rfl, rfl, hwe⟩ := hrel
        have hwe := hwe.symm
        subst hwe
        have l4 := kinds_le 4 bs q
        have l5 := kinds_le 5 bs q
        have l1 := kinds_le 1 bs q
        by_cases hp : q < bs.length
        · obtain ⟨b9, off, hA, hb9, hc0, hc1, hc2, hc3, hc4, hc5⟩ := HAt.out.at hp
          have hkd := HOk.out.kind _ (List.getElem_mem hp)
          have HFst := Lib.hid (fun h0 : q = 0 => HOk.out.first bs[q] (by subst h0; exact List.getElem?_eq_getElem hp))
          have s4 := kinds_step hp 4
          have s5 := kinds_step hp 5
          have s1 := kinds_step hp 1
          generalize bs[q] = x at *
          obtain ⟨xk, xd, xn, xt, xs, xi⟩ := x
          dsimp only at hc0 hc1 hc2 hc3 hc4 hc5 hkd HFst s4 s5 s1
          subst hA
          generalize kinds 4 (bs.take q) = K4 at *
          generalize kinds 5 (bs.take q) = K5 at *
          generalize kinds 1 (bs.take q) = K1 at *
          rcases hkd with rfl | rfl | rfl
          · simp only [if_true, show ¬ ((4 : Int) = 5) from by decide, show ¬ ((4 : Int) = 1) from by decide, if_false, Nat.add_zero] at s4 s5 s1
            have S4 := Lib.hid s4
            have S5 := Lib.hid s5
            have S1 := Lib.hid s1
            clear hc1 hc4 hc5 s4 s5 s1
            by_cases h0 : q = 0
            · obtain ⟨_, rfl, ht⟩ := HFst.out h0
              have hq0 : ((q : Int) == 0) = true := by simp; omega
              simp only [Bool.not_false, Bool.true_or] at ht
              subst ht
              clear h0 HFst
              go_wp2
              first
                | (go_roundw
                   case rel => exact ⟨q + 1, by go_num, by omega, by rw [S4.out]; go_num, by rw [S5.out], by rw [S1.out], rfl⟩
                   case measure => simp [intOf]; omega)
                | exact ⟨⟨q + 1, by go_num, by omega, by rw [S4.out]; go_num, by rw [S5.out], by rw [S1.out], rfl⟩, by simp [intOf]; omega⟩
            · have hq0 : ((q : Int) == 0) = false := by simp; omega
              clear h0 HFst
              go_wp2
              first
                | (go_roundw
                   case rel => exact ⟨q + 1, by go_num, by omega, by rw [S4.out]; go_num, by rw [S5.out], by rw [S1.out], rfl⟩
                   case measure => simp [intOf]; omega)
                | exact ⟨⟨q + 1, by go_num, by omega, by rw [S4.out]; go_num, by rw [S5.out], by rw [S1.out], rfl⟩, by simp [intOf]; omega⟩
          · simp only [if_true, show ¬ ((5 : Int) = 4) from by decide, show ¬ ((5 : Int) = 1) from by decide, if_false, Nat.add_zero] at s4 s5 s1
            have S4 := Lib.hid s4
            have S5 := Lib.hid s5
            have S1 := Lib.hid s1
            clear hc1 hc2 hc3 hc4 hc5 s4 s5 s1 HFst
            go_wp2
            first
              | (go_roundw
                 case rel => exact ⟨q + 1, by go_num, by omega, by rw [S4.out], by rw [S5.out]; go_num, by rw [S1.out], rfl⟩
                 case measure => simp [intOf]; omega)
              | exact ⟨⟨q + 1, by go_num, by omega, by rw [S4.out], by rw [S5.out]; go_num, by rw [S1.out], rfl⟩, by simp [intOf]; omega⟩
          · simp only [if_true, show ¬ ((1 : Int) = 4) from by decide, show ¬ ((1 : Int) = 5) from by decide, if_false, Nat.add_zero] at s4 s5 s1
            have S4 := Lib.hid s4
            have S5 := Lib.hid s5
            have S1 := Lib.hid s1
            clear hc1 hc2 hc3 hc4 hc5 s4 s5 s1 HFst
            go_wp2
            first
              | (go_roundw
                 case rel => exact ⟨q + 1, by go_num, by omega, by rw [S4.out], by rw [S5.out], by rw [S1.out]; go_num, rfl⟩
                 case measure => simp [intOf]; omega)
              | exact ⟨⟨q + 1, by go_num, by omega, by rw [S4.out], by rw [S5.out], by rw [S1.out]; go_num, rfl⟩, by simp [intOf]; omega⟩
        · obtain rfl : q = bs.length := by omega
          rw [List.take_length, HOk.out.lists, HOk.out.items, HOk.out.paras]
          rw [show (if (false && decide (1 < k)) = true then 2 else 1) = 1 from rfl]
          clear l4 l5 l1
          go_wp2
          go_ret
          exact ⟨ret_bool (by simp), HB3.out⟩

set_option maxHeartbeats 16000000 in
theorem blockLists_no (w : World) (n fr : Nat) (h1 : 1 ≤ n) (h15 : n ≤ 15) (hfr : fr ≤ 999) :
    Calls Tryd.prog 8 #[.int .i64 n, .int .i64 fr, .bool false, .bool true] w fun e w' => e = .returned (.bool true) ∧ Below w.heap.size w w' := by
  obtain ⟨i0, hi, hz0, hz1, hz2⟩ := info_parts infoString
  have hf1 : decide ((n : Int) < 1) = false := by simp; omega
  have hf2 : decide ((15 : Int) < (n : Int)) = false := by simp; omega
  have hf3 : decide ((fr : Int) < 0) = false := by simp <;> omega
  have hf4 : decide ((999 : Int) < (fr : Int)) = false := by simp; omega
  have HOk := Lib.hid (law_ok n fr false true h1 h15 hfr)
  have HFew := Lib.hid (few_law n fr false true h15 hfr)
  go_enter Tryd.func8, Tryd.ntmps8
  go_wp2_with fail
  refine (alive9_any _).mono ?_
  rintro e w1 ⟨rfl, b1⟩
  have HB1 := Lib.hid b1
  clear b1 hf1 hf2 hf3 hf4
  go_wp2_with fail
  go_loopw [9, 10] (fun z9 z10 wr => LsRel n fr false true w1 z9 z10 wr) (fun _ z10 _ => n - (intOf z10).toNat)
  case atStart => exact ⟨0, rfl, Nat.zero_le _, World.ownsRow_nil _ _ _ _, Below.refl _ _⟩
  case round =>
    obtain ⟨k, rfl, hk, hown, hbw⟩ := hrel
    have hss := hbw.size
    by_cases hp : k < n
    · have HO := Lib.hid hown
      have HBW := Lib.hid hbw
      have hlen := lawL_len n fr false true k
      have hl2 : (lawL n fr false true k).length ≤ 30 := by
        rw [hlen]
        have := Nat.mul_le_mul hk (show 1 + (blk1 false).length ≤ 2 by decide)
        omega
      clear hown hbw hlen
      rename World => w2
      go_wp2_with fail
      go_loopw [11, 12] (fun zd zv wr => DgRel (fr + k) w2 zd zv wr) (fun zd zv _ => (intOf zv).toNat + (if Lib.strSize zd = 0 then 1 else 0))
      case atStart => exact ⟨6, fr + k, ⟨#[]⟩, by go_num, rfl, rfl, by omega, rfl, Below.refl _ _⟩
      case round =>
        obtain ⟨f, v, D, rfl, rfl, hD, hvf, hfD, hb2⟩ := hrel
        have hs2 := hb2.size
        have hD6 : D.size ≤ 6 := by omega
        have hv6 : v < 1000000 := Nat.lt_of_lt_of_le hvf (by
          have := Nat.pow_le_pow_right (n := 10) (by omega) (show f ≤ 6 by omega)
          simpa using this)
        by_cases hc : 0 < v ∨ D.size = 0
        · obtain ⟨g, hm1, hm2, hm3⟩ := dg_more hD hvf hfD hc
          have HM1 := Lib.hid hm1
          have HM2 := Lib.hid hm2
          have HM3 := Lib.hid hm3
          have HB2 := Lib.hid hb2
          clear hD hvf hfD hm1 hm2 hm3 hb2
          have k0 := fun W => run_string_add_sum (P := Tryd.prog) W (⟨#[(48 + (v : Int) % 10).toNat.toUInt8]⟩ : ByteArray) D (by show 1 + _ ≤ _; omega)
          have hom : ((⟨#[48 + UInt8.ofNat (v % 10)]⟩ : ByteArray) ++ D).size = 1 + D.size := by rw [ByteArray.size_append]; rfl
          have HOM := Lib.hid hom
          clear hom
          by_cases hv0 : 0 < v
          · have hcv := conv_one wr (48 + (v : Int) % 10) (by omega) (by omega)
            have f0 : decide ((0 : Int) < (v : Int)) = true := by simp; omega
            clear hc
            go_wp2
            refine ⟨⟨g, v / 10, _, by go_num, rfl, HM1.out, HM2.out, HM3.out, below_one HB2.out hs2 _⟩, ?_⟩
            rw [Lib.strSize_string, HOM.out, if_neg (by omega), Lib.strSize_string]
            simp only [intOf]
            split <;> omega
          · obtain rfl : v = 0 := by omega
            have hD0 : D.size = 0 := by omega
            have hnl : D.data.toList = [] := List.eq_nil_of_length_eq_zero (by simpa using hD0)
            have hde : D.toList.isEmpty = true := by rw [ByteArray.toList_eq, hnl]; rfl
            have hcv : (convert 36 9 (.slice (some ⟨wr.heap.size, 0, none⟩) 1 1)).run Tryd.prog (wr.alloc (.cells #[.int .u8 48] 5)) = .ok (.string ⟨#[48]⟩) (wr.alloc (.cells #[.int .u8 48] 5)) := conv_one wr 48 (by decide) (by decide)
            have k1 := fun W => run_string_add_sum (P := Tryd.prog) W (⟨#[48]⟩ : ByteArray) D (by show 1 + _ ≤ _; omega)
            have HD0 := Lib.hid hD0
            clear hc hv0 hnl hD0 k0
            go_wp2
            refine ⟨⟨g, 0, _, rfl, rfl, HM1.out, HM2.out, HM3.out, below_one HB2.out hs2 _⟩, ?_⟩
            rw [Lib.strSize_string, show ((⟨#[48]⟩ : ByteArray) ++ D).size = 1 + D.size from HOM.out, if_neg (by omega), Lib.strSize_string, if_pos HD0.out]
            simp [intOf]
        · obtain rfl : v = 0 := by omega
          have hD1 : 0 < D.size := by omega
          have hde := toList_empty hD1
          have hDl := dg_done hD hD1
          have HDL := Lib.hid hDl
          have HB2 := Lib.hid (HBW.out.trans (hb2.mono hss))
          have HO2 := Lib.hid (ownsRow_below HO.out hb2)
          have hsw : w1.heap.size ≤ wr.heap.size := by omega
          clear hD hvf hfD hb2 hDl hc
          by_cases hlast : k + 1 = n
          · have HSucc := Lib.hid (show lawL n fr false true (k + 1) = lawL n fr false true k ++ (rowN 41 (fr + k) :: blk1 false) from by rw [lawL_succ, decide_eq_true hlast]; rfl)
            have hq : ((k : Int) == (n : Int) - 1) = true := by simp; omega
            have hk1 : k + 1 ≤ n := by omega
            clear hlast
            have z1 : (D ++ (⟨#[41]⟩ : ByteArray)).size ≤ 7 := by rw [ByteArray.size_append]; show _ + 1 ≤ _; omega
            have k1 := fun W => run_string_add_sum (P := Tryd.prog) W D (⟨#[41]⟩ : ByteArray) (by show _ + 1 ≤ _; omega)
            have k2 := fun W => run_string_add_sum (P := Tryd.prog) W (D ++ (⟨#[41]⟩ : ByteArray)) (⟨#[32, 120]⟩ : ByteArray) (by show _ + 2 ≤ _; omega)
            have HTx := Lib.hid (row_text (sg := 41) HDL.out)
            obtain ⟨Y, hY⟩ : ∃ Y, (D ++ (⟨#[41]⟩ : ByteArray)) ++ (⟨#[32, 120]⟩ : ByteArray) = Y := ⟨_, rfl⟩
            rw [hY] at k2 HTx
            have hnw := cells_one wr (.string Y) 9
            have hrow2 := HO2.out.alloc (.cells #[.string Y] 9)
            clear hY hp
            go_wp2_with (at_builtin; refine wpList_append_own _ rfl _ _ 22 rfl w1.heap.size 9 i0 (.string ByteArray.empty) 1 16 Tryd.underlying22 hi hz0 hz1 hz2 rfl (by decide) _ _ _ rfl hrow2 ⟨wr.heap.size, 0, none⟩ 1 1 [.string Y] rfl rfl hnw (by simp [Value.oneCell']) (by unfold maxLen; omega) (by omega) (by simp; omega) ?_)
            intro v' w3 hown' hgrow _
            have HB3 := Lib.hid ((HB2.out.alloc hsw (.cells #[.string Y] 9)).trans (below_of_grown hgrow (fun g hg => (hrow2.lt g hg).1) (by simp; omega)))
            have hs3 := HB3.out.size
            have HO3 := Lib.hid (show w3.ownsRow w1.heap.size 9 1 v' ((lawL n fr false true k).length + 1) (strs (lawL n fr false true k ++ [rowN 41 (fr + k)])) from by
              rw [strs_append, strs_one, text_is HTx.out]
              exact hown')
            clear hown' hgrow hrow2 hnw
            have HB4 := HB3
            have HO4 := Lib.hid (show w3.ownsRow w1.heap.size 9 1 v' (lawL n fr false true (k + 1)).length (strs (lawL n fr false true (k + 1))) from by
              rw [HSucc.out, show rowN 41 (fr + k) :: blk1 false = [rowN 41 (fr + k)] from rfl, List.length_append]
              exact HO3.out)
            go_wp2
            first
              | (go_roundw
                 case rel => exact ⟨k + 1, by go_num, by omega, HO4.out, HB4.out⟩
                 case measure => simp [intOf]; omega)
              | exact ⟨⟨k + 1, by go_num, by omega, HO4.out, HB4.out⟩, by simp [intOf]; omega⟩
          · have HSucc := Lib.hid (show lawL n fr false true (k + 1) = lawL n fr false true k ++ (rowN 46 (fr + k) :: blk1 false) from by rw [lawL_succ, decide_eq_false hlast]; rfl)
            have hq : ((k : Int) == (n : Int) - 1) = false := by simp; omega
            have hk1 : k + 1 ≤ n := by omega
            clear hlast
            have z1 : (D ++ (⟨#[46]⟩ : ByteArray)).size ≤ 7 := by rw [ByteArray.size_append]; show _ + 1 ≤ _; omega
            have k1 := fun W => run_string_add_sum (P := Tryd.prog) W D (⟨#[46]⟩ : ByteArray) (by show _ + 1 ≤ _; omega)
            have k2 := fun W => run_string_add_sum (P := Tryd.prog) W (D ++ (⟨#[46]⟩ : ByteArray)) (⟨#[32, 120]⟩ : ByteArray) (by show _ + 2 ≤ _; omega)
            have HTx := Lib.hid (row_text (sg := 46) HDL.out)
            obtain ⟨Y, hY⟩ : ∃ Y, (D ++ (⟨#[46]⟩ : ByteArray)) ++ (⟨#[32, 120]⟩ : ByteArray) = Y := ⟨_, rfl⟩
            rw [hY] at k2 HTx
            have hnw := cells_one wr (.string Y) 9
            have hrow2 := HO2.out.alloc (.cells #[.string Y] 9)
            clear hY hp
            go_wp2_with (at_builtin; refine wpList_append_own _ rfl _ _ 22 rfl w1.heap.size 9 i0 (.string ByteArray.empty) 1 16 Tryd.underlying22 hi hz0 hz1 hz2 rfl (by decide) _ _ _ rfl hrow2 ⟨wr.heap.size, 0, none⟩ 1 1 [.string Y] rfl rfl hnw (by simp [Value.oneCell']) (by unfold maxLen; omega) (by omega) (by simp; omega) ?_)
            intro v' w3 hown' hgrow _
            have HB3 := Lib.hid ((HB2.out.alloc hsw (.cells #[.string Y] 9)).trans (below_of_grown hgrow (fun g hg => (hrow2.lt g hg).1) (by simp; omega)))
            have hs3 := HB3.out.size
            have HO3 := Lib.hid (show w3.ownsRow w1.heap.size 9 1 v' ((lawL n fr false true k).length + 1) (strs (lawL n fr false true k ++ [rowN 46 (fr + k)])) from by
              rw [strs_append, strs_one, text_is HTx.out]
              exact hown')
            clear hown' hgrow hrow2 hnw
            have HB4 := HB3
            have HO4 := Lib.hid (show w3.ownsRow w1.heap.size 9 1 v' (lawL n fr false true (k + 1)).length (strs (lawL n fr false true (k + 1))) from by
              rw [HSucc.out, show rowN 46 (fr + k) :: blk1 false = [rowN 46 (fr + k)] from rfl, List.length_append]
              exact HO3.out)
            go_wp2
            first
              | (go_roundw
                 case rel => exact ⟨k + 1, by go_num, by omega, HO4.out, HB4.out⟩
                 case measure => simp [intOf]; omega)
              | exact ⟨⟨k + 1, by go_num, by omega, HO4.out, HB4.out⟩, by simp [intOf]; omega⟩
    · obtain rfl : k = n := by omega
      obtain ⟨A3, c3, rfl, hr3, _⟩ := RowOf.own hown
      have cp := bparse_any A3 c3 (lawL k fr false true k) wr hr3 HFew.out
      have HBW := Lib.hid (HB1.out.then hbw)
      have hll := hr3.strs_le
      clear hown hbw hr3
      go_wp2_with fail
      refine cp.mono ?_
      rintro e w3 ⟨v3, rfl, hown3, b3⟩
      obtain ⟨A4, c4, rfl, hat⟩ := BlksAt.own hown3
      have HB3 := Lib.hid (HBW.out.then b3)
      have HAt := Lib.hid hat
      have hle := hat.le
      have hcm := hat.cap
      have hpl : (parseB (lawL k fr false true k)).length ≤ 2600000 := by
        have h1 := (firstM_count 12).1 (lawL k fr false true k)
        have h2 := Nat.mul_le_mul_left (2 * 12 + 2) HFew.out.len
        show (allL 12 (lawL k fr false true k)).length ≤ _
        omega
      unfold maxLen at hcm
      generalize parseB (lawL k fr false true k) = bs at *
      clear hown3 b3 cp hat hll
      go_wp2_with fail
      go_loopw [15, 16, 17, 85] (fun z15 z16 z17 z85 wr => KnRel bs w3 z15 z16 z17 z85 wr) (fun _ _ _ z85 _ => bs.length - (intOf z85).toNat)
      case atStart => exact ⟨0, rfl, Nat.zero_le _, rfl, rfl, rfl, rfl⟩
      case round =>
        obtain ⟨q, rfl, hq, rfl, rfl, rfl, hwe⟩ := hrel
        have hwe := hwe.symm
        subst hwe
        have l4 := kinds_le 4 bs q
        have l5 := kinds_le 5 bs q
        have l1 := kinds_le 1 bs q
        by_cases hp : q < bs.length
        · obtain ⟨b9, off, hA, hb9, hc0, hc1, hc2, hc3, hc4, hc5⟩ := HAt.out.at hp
          have hkd := HOk.out.kind _ (List.getElem_mem hp)
          have HFst := Lib.hid (fun h0 : q = 0 => HOk.out.first bs[q] (by subst h0; exact List.getElem?_eq_getElem hp))
          have s4 := kinds_step hp 4
          have s5 := kinds_step hp 5
          have s1 := kinds_step hp 1
          generalize bs[q] = x at *
          obtain ⟨xk, xd, xn, xt, xs, xi⟩ := x
          dsimp only at hc0 hc1 hc2 hc3 hc4 hc5 hkd HFst s4 s5 s1
          subst hA
          generalize kinds 4 (bs.take q) = K4 at *
          generalize kinds 5 (bs.take q) = K5 at *
          generalize kinds 1 (bs.take q) = K1 at *
          rcases hkd with rfl | rfl | rfl
          · simp only [if_true, show ¬ ((4 : Int) = 5) from by decide, show ¬ ((4 : Int) = 1) from by decide, if_false, Nat.add_zero] at s4 s5 s1
            have S4 := Lib.hid s4
            have S5 := Lib.hid s5
            have S1 := Lib.hid s1
            clear hc1 hc4 hc5 s4 s5 s1
            by_cases h0 : q = 0
            · obtain ⟨_, rfl, ht⟩ := HFst.out h0
              have hq0 : ((q : Int) == 0) = true := by simp; omega
              simp only [Bool.not_false, Bool.true_or] at ht
              subst ht
              clear h0 HFst
              go_wp2
              first
                | (go_roundw
                   case rel => exact ⟨q + 1, by go_num, by omega, by rw [S4.out]; go_num, by rw [S5.out], by rw [S1.out], rfl⟩
                   case measure => simp [intOf]; omega)
                | exact ⟨⟨q + 1, by go_num, by omega, by rw [S4.out]; go_num, by rw [S5.out], by rw [S1.out], rfl⟩, by simp [intOf]; omega⟩
            · have hq0 : ((q : Int) == 0) = false := by simp; omega
              clear h0 HFst
              go_wp2
              first
                | (go_roundw
                   case rel => exact ⟨q + 1, by go_num, by omega, by rw [S4.out]; go_num, by rw [S5.out], by rw [S1.out], rfl⟩
                   case measure => simp [intOf]; omega)
                | exact ⟨⟨q + 1, by go_num, by omega, by rw [S4.out]; go_num, by rw [S5.out], by rw [S1.out], rfl⟩, by simp [intOf]; omega⟩
          · simp only [if_true, show ¬ ((5 : Int) = 4) from by decide, show ¬ ((5 : Int) = 1) from by decide, if_false, Nat.add_zero] at s4 s5 s1
            have S4 := Lib.hid s4
            have S5 := Lib.hid s5
            have S1 := Lib.hid s1
            clear hc1 hc2 hc3 hc4 hc5 s4 s5 s1 HFst
            go_wp2
            first
              | (go_roundw
                 case rel => exact ⟨q + 1, by go_num, by omega, by rw [S4.out], by rw [S5.out]; go_num, by rw [S1.out], rfl⟩
                 case measure => simp [intOf]; omega)
              | exact ⟨⟨q + 1, by go_num, by omega, by rw [S4.out], by rw [S5.out]; go_num, by rw [S1.out], rfl⟩, by simp [intOf]; omega⟩
          · simp only [if_true, show ¬ ((1 : Int) = 4) from by decide, show ¬ ((1 : Int) = 5) from by decide, if_false, Nat.add_zero] at s4 s5 s1
            have S4 := Lib.hid s4
            have S5 := Lib.hid s5
            have S1 := Lib.hid s1
            clear hc1 hc2 hc3 hc4 hc5 s4 s5 s1 HFst
            go_wp2
            first
              | (go_roundw
                 case rel => exact ⟨q + 1, by go_num, by omega, by rw [S4.out], by rw [S5.out], by rw [S1.out]; go_num, rfl⟩
                 case measure => simp [intOf]; omega)
              | exact ⟨⟨q + 1, by go_num, by omega, by rw [S4.out], by rw [S5.out], by rw [S1.out]; go_num, rfl⟩, by simp [intOf]; omega⟩
        · obtain rfl : q = bs.length := by omega
          rw [List.take_length, HOk.out.lists, HOk.out.items, HOk.out.paras]
          clear l4 l5 l1
          by_cases hn1 : 1 < k
          · have g1 : decide ((1 : Int) < (k : Int)) = true := by simp; omega
            rw [decide_eq_true hn1, show (if (true && true) = true then 2 else 1) = 2 from rfl]
            clear hn1
            go_wp2
            go_ret
            exact ⟨ret_bool (by simp), HB3.out⟩
          · have g1 : decide ((1 : Int) < (k : Int)) = false := by simp; omega
            rw [decide_eq_false hn1, show (if (true && false) = true then 2 else 1) = 1 from rfl]
            clear hn1
            go_wp2
            go_ret
            exact ⟨ret_bool (by simp), HB3.out⟩

set_option maxHeartbeats 16000000 in
theorem blockLists_bs (w : World) (n fr : Nat) (h1 : 1 ≤ n) (h15 : n ≤ 15) (hfr : fr ≤ 999) :
    Calls Tryd.prog 8 #[.int .i64 n, .int .i64 fr, .bool true, .bool false] w fun e w' => e = .returned (.bool true) ∧ Below w.heap.size w w' := by
  obtain ⟨i0, hi, hz0, hz1, hz2⟩ := info_parts infoString
  have hf1 : decide ((n : Int) < 1) = false := by simp; omega
  have hf2 : decide ((15 : Int) < (n : Int)) = false := by simp; omega
  have hf3 : decide ((fr : Int) < 0) = false := by simp <;> omega
  have hf4 : decide ((999 : Int) < (fr : Int)) = false := by simp; omega
  have HOk := Lib.hid (law_ok n fr true false h1 h15 hfr)
  have HFew := Lib.hid (few_law n fr true false h15 hfr)
  go_enter Tryd.func8, Tryd.ntmps8
  go_wp2_with fail
  refine (alive9_any _).mono ?_
  rintro e w1 ⟨rfl, b1⟩
  have HB1 := Lib.hid b1
  clear b1 hf1 hf2 hf3 hf4
  go_wp2_with fail
  go_loopw [9, 10] (fun z9 z10 wr => LsRel n fr true false w1 z9 z10 wr) (fun _ z10 _ => n - (intOf z10).toNat)
  case atStart => exact ⟨0, rfl, Nat.zero_le _, World.ownsRow_nil _ _ _ _, Below.refl _ _⟩
  case round =>
    obtain ⟨k, rfl, hk, hown, hbw⟩ := hrel
    have hss := hbw.size
    by_cases hp : k < n
    · have HO := Lib.hid hown
      have HBW := Lib.hid hbw
      have hlen := lawL_len n fr true false k
      have hl2 : (lawL n fr true false k).length ≤ 30 := by
        rw [hlen]
        have := Nat.mul_le_mul hk (show 1 + (blk1 true).length ≤ 2 by decide)
        omega
      clear hown hbw hlen
      rename World => w2
      go_wp2_with fail
      go_loopw [11, 12] (fun zd zv wr => DgRel (fr + k) w2 zd zv wr) (fun zd zv _ => (intOf zv).toNat + (if Lib.strSize zd = 0 then 1 else 0))
      case atStart => exact ⟨6, fr + k, ⟨#[]⟩, by go_num, rfl, rfl, by omega, rfl, Below.refl _ _⟩
      case round =>
        obtain ⟨f, v, D, rfl, rfl, hD, hvf, hfD, hb2⟩ := hrel
        have hs2 := hb2.size
        have hD6 : D.size ≤ 6 := by omega
        have hv6 : v < 1000000 := Nat.lt_of_lt_of_le hvf (by
          have := Nat.pow_le_pow_right (n := 10) (by omega) (show f ≤ 6 by omega)
          simpa using this)
        by_cases hc : 0 < v ∨ D.size = 0
        · obtain ⟨g, hm1, hm2, hm3⟩ := dg_more hD hvf hfD hc
          have HM1 := Lib.hid hm1
          have HM2 := Lib.hid hm2
          have HM3 := Lib.hid hm3
          have HB2 := Lib.hid hb2
          clear hD hvf hfD hm1 hm2 hm3 hb2
          have k0 := fun W => run_string_add_sum (P := Tryd.prog) W (⟨#[(48 + (v : Int) % 10).toNat.toUInt8]⟩ : ByteArray) D (by show 1 + _ ≤ _; omega)
          have hom : ((⟨#[48 + UInt8.ofNat (v % 10)]⟩ : ByteArray) ++ D).size = 1 + D.size := by rw [ByteArray.size_append]; rfl
          have HOM := Lib.hid hom
          clear hom
          by_cases hv0 : 0 < v
          · have hcv := conv_one wr (48 + (v : Int) % 10) (by omega) (by omega)
            have f0 : decide ((0 : Int) < (v : Int)) = true := by simp; omega
            clear hc
            go_wp2
            refine ⟨⟨g, v / 10, _, by go_num, rfl, HM1.out, HM2.out, HM3.out, below_one HB2.out hs2 _⟩, ?_⟩
            rw [Lib.strSize_string, HOM.out, if_neg (by omega), Lib.strSize_string]
            simp only [intOf]
            split <;> omega
          · obtain rfl : v = 0 := by omega
            have hD0 : D.size = 0 := by omega
            have hnl : D.data.toList = [] := List.eq_nil_of_length_eq_zero (by simpa using hD0)
            have hde : D.toList.isEmpty = true := by rw [ByteArray.toList_eq, hnl]; rfl
            have hcv : (convert 36 9 (.slice (some ⟨wr.heap.size, 0, none⟩) 1 1)).run Tryd.prog (wr.alloc (.cells #[.int .u8 48] 5)) = .ok (.string ⟨#[48]⟩) (wr.alloc (.cells #[.int .u8 48] 5)) := conv_one wr 48 (by decide) (by decide)
            have k1 := fun W => run_string_add_sum (P := Tryd.prog) W (⟨#[48]⟩ : ByteArray) D (by show 1 + _ ≤ _; omega)
            have HD0 := Lib.hid hD0
            clear hc hv0 hnl hD0 k0
            go_wp2
            refine ⟨⟨g, 0, _, rfl, rfl, HM1.out, HM2.out, HM3.out, below_one HB2.out hs2 _⟩, ?_⟩
            rw [Lib.strSize_string, show ((⟨#[48]⟩ : ByteArray) ++ D).size = 1 + D.size from HOM.out, if_neg (by omega), Lib.strSize_string, if_pos HD0.out]
            simp [intOf]
        · obtain rfl : v = 0 := by omega
          have hD1 : 0 < D.size := by omega
          have hde := toList_empty hD1
          have hDl := dg_done hD hD1
          have HDL := Lib.hid hDl
          have HB2 := Lib.hid (HBW.out.trans (hb2.mono hss))
          have HO2 := Lib.hid (ownsRow_below HO.out hb2)
          have hsw : w1.heap.size ≤ wr.heap.size := by omega
          clear hD hvf hfD hb2 hDl hc
          have HSucc := Lib.hid (show lawL n fr true false (k + 1) = lawL n fr true false k ++ (rowN 46 (fr + k) :: blk1 true) from by rw [lawL_succ]; rfl)
          have hk1 : k + 1 ≤ n := by omega
          have z1 : (D ++ (⟨#[46]⟩ : ByteArray)).size ≤ 7 := by rw [ByteArray.size_append]; show _ + 1 ≤ _; omega
          have k1 := fun W => run_string_add_sum (P := Tryd.prog) W D (⟨#[46]⟩ : ByteArray) (by show _ + 1 ≤ _; omega)
          have k2 := fun W => run_string_add_sum (P := Tryd.prog) W (D ++ (⟨#[46]⟩ : ByteArray)) (⟨#[32, 120]⟩ : ByteArray) (by show _ + 2 ≤ _; omega)
          have HTx := Lib.hid (row_text (sg := 46) HDL.out)
          obtain ⟨Y, hY⟩ : ∃ Y, (D ++ (⟨#[46]⟩ : ByteArray)) ++ (⟨#[32, 120]⟩ : ByteArray) = Y := ⟨_, rfl⟩
          rw [hY] at k2 HTx
          have hnw := cells_one wr (.string Y) 9
          have hrow2 := HO2.out.alloc (.cells #[.string Y] 9)
          clear hY hp
          go_wp2_with (at_builtin; refine wpList_append_own _ rfl _ _ 22 rfl w1.heap.size 9 i0 (.string ByteArray.empty) 1 16 Tryd.underlying22 hi hz0 hz1 hz2 rfl (by decide) _ _ _ rfl hrow2 ⟨wr.heap.size, 0, none⟩ 1 1 [.string Y] rfl rfl hnw (by simp [Value.oneCell']) (by unfold maxLen; omega) (by omega) (by simp; omega) ?_)
          intro v' w3 hown' hgrow _
          have HB3 := Lib.hid ((HB2.out.alloc hsw (.cells #[.string Y] 9)).trans (below_of_grown hgrow (fun g hg => (hrow2.lt g hg).1) (by simp; omega)))
          have hs3 := HB3.out.size
          have HO3 := Lib.hid (show w3.ownsRow w1.heap.size 9 1 v' ((lawL n fr true false k).length + 1) (strs (lawL n fr true false k ++ [rowN 46 (fr + k)])) from by
            rw [strs_append, strs_one, text_is HTx.out]
            exact hown')
          clear hown' hgrow hrow2 hnw
          have hnw2 := cells_one w3 (.string ⟨#[]⟩) 9
          have hrow3 := HO3.out.alloc (.cells #[.string ⟨#[]⟩] 9)
          go_wp2_with (at_builtin; refine wpList_append_own _ rfl _ _ 22 rfl w1.heap.size 9 i0 (.string ByteArray.empty) 1 16 Tryd.underlying22 hi hz0 hz1 hz2 rfl (by decide) _ _ _ rfl hrow3 ⟨w3.heap.size, 0, none⟩ 1 1 [.string ⟨#[]⟩] rfl rfl hnw2 (by simp [Value.oneCell']) (by unfold maxLen; omega) (by omega) (by simp; omega) ?_)
          intro v4 w4 hown4 hgrow4 _
          have HB4 := Lib.hid ((HB3.out.alloc hs3 (.cells #[.string ⟨#[]⟩] 9)).trans (below_of_grown hgrow4 (fun g hg => (hrow3.lt g hg).1) (by simp; omega)))
          have HO4 := Lib.hid (show w4.ownsRow w1.heap.size 9 1 v4 (lawL n fr true false (k + 1)).length (strs (lawL n fr true false (k + 1))) from by
            rw [HSucc.out, show rowN 46 (fr + k) :: blk1 true = [rowN 46 (fr + k)] ++ [[]] from rfl, ← List.append_assoc, List.length_append, List.length_append, strs_append _ [[]]]
            exact hown4)
          clear hown4 hgrow4 hrow3 hnw2
          go_wp2
          first
            | (go_roundw
               case rel => exact ⟨k + 1, by go_num, by omega, HO4.out, HB4.out⟩
               case measure => simp [intOf]; omega)
            | exact ⟨⟨k + 1, by go_num, by omega, HO4.out, HB4.out⟩, by simp [intOf]; omega⟩
    · obtain rfl : k = n := by omega
      obtain ⟨A3, c3, rfl, hr3, _⟩ := RowOf.own hown
      have cp := bparse_any A3 c3 (lawL k fr true false k) wr hr3 HFew.out
      have HBW := Lib.hid (HB1.out.then hbw)
      have hll := hr3.strs_le
      clear hown hbw hr3
      go_wp2_with fail
      refine cp.mono ?_
      rintro e w3 ⟨v3, rfl, hown3, b3⟩
      obtain ⟨A4, c4, rfl, hat⟩ := BlksAt.own hown3
      have HB3 := Lib.hid (HBW.out.then b3)
      have HAt := Lib.hid hat
      have hle := hat.le
      have hcm := hat.cap
      have hpl : (parseB (lawL k fr true false k)).length ≤ 2600000 := by
        have h1 := (firstM_count 12).1 (lawL k fr true false k)
        have h2 := Nat.mul_le_mul_left (2 * 12 + 2) HFew.out.len
        show (allL 12 (lawL k fr true false k)).length ≤ _
        omega
      unfold maxLen at hcm
      generalize parseB (lawL k fr true false k) = bs at *
      clear hown3 b3 cp hat hll
      go_wp2_with fail
      go_loopw [15, 16, 17, 85] (fun z15 z16 z17 z85 wr => KnRel bs w3 z15 z16 z17 z85 wr) (fun _ _ _ z85 _ => bs.length - (intOf z85).toNat)
      case atStart => exact ⟨0, rfl, Nat.zero_le _, rfl, rfl, rfl, rfl⟩
      case round =>
        obtain ⟨q, rfl, hq, rfl, rfl, rfl, hwe⟩ := hrel
        have hwe := hwe.symm
        subst hwe
        have l4 := kinds_le 4 bs q
        have l5 := kinds_le 5 bs q
        have l1 := kinds_le 1 bs q
        by_cases hp : q < bs.length
        · obtain ⟨b9, off, hA, hb9, hc0, hc1, hc2, hc3, hc4, hc5⟩ := HAt.out.at hp
          have hkd := HOk.out.kind _ (List.getElem_mem hp)
          have HFst := Lib.hid (fun h0 : q = 0 => HOk.out.first bs[q] (by subst h0; exact List.getElem?_eq_getElem hp))
          have s4 := kinds_step hp 4
          have s5 := kinds_step hp 5
          have s1 := kinds_step hp 1
          generalize bs[q] = x at *
          obtain ⟨xk, xd, xn, xt, xs, xi⟩ := x
          dsimp only at hc0 hc1 hc2 hc3 hc4 hc5 hkd HFst s4 s5 s1
          subst hA
          generalize kinds 4 (bs.take q) = K4 at *
          generalize kinds 5 (bs.take q) = K5 at *
          generalize kinds 1 (bs.take q) = K1 at *
          rcases hkd with rfl | rfl | rfl
          · simp only [if_true, show ¬ ((4 : Int) = 5) from by decide, show ¬ ((4 : Int) = 1) from by decide, if_false, Nat.add_zero] at s4 s5 s1
            have S4 := Lib.hid s4
            have S5 := Lib.hid s5
            have S1 := Lib.hid s1
            clear hc1 hc4 hc5 s4 s5 s1
            by_cases h0 : q = 0
            · obtain ⟨_, rfl, ht⟩ := HFst.out h0
              have hq0 : ((q : Int) == 0) = true := by simp; omega
              by_cases hn1 : k = 1
              · have g1 : ((k : Int) == 1) = true := by simp; omega
                have ht2 : xt = true := by rw [ht, decide_eq_true hn1]; rfl
                subst ht2
                clear h0 HFst ht hn1
                go_wp2
                first
                  | (go_roundw
                     case rel => exact ⟨q + 1, by go_num, by omega, by rw [S4.out]; go_num, by rw [S5.out], by rw [S1.out], rfl⟩
                     case measure => simp [intOf]; omega)
                  | exact ⟨⟨q + 1, by go_num, by omega, by rw [S4.out]; go_num, by rw [S5.out], by rw [S1.out], rfl⟩, by simp [intOf]; omega⟩
              · have g1 : ((k : Int) == 1) = false := by simp; omega
                have ht2 : xt = false := by rw [ht, decide_eq_false hn1]; rfl
                subst ht2
                clear h0 HFst ht hn1
                go_wp2
                first
                  | (go_roundw
                     case rel => exact ⟨q + 1, by go_num, by omega, by rw [S4.out]; go_num, by rw [S5.out], by rw [S1.out], rfl⟩
                     case measure => simp [intOf]; omega)
                  | exact ⟨⟨q + 1, by go_num, by omega, by rw [S4.out]; go_num, by rw [S5.out], by rw [S1.out], rfl⟩, by simp [intOf]; omega⟩
            · have hq0 : ((q : Int) == 0) = false := by simp; omega
              clear h0 HFst
              go_wp2
              first
                | (go_roundw
                   case rel => exact ⟨q + 1, by go_num, by omega, by rw [S4.out]; go_num, by rw [S5.out], by rw [S1.out], rfl⟩
                   case measure => simp [intOf]; omega)
                | exact ⟨⟨q + 1, by go_num, by omega, by rw [S4.out]; go_num, by rw [S5.out], by rw [S1.out], rfl⟩, by simp [intOf]; omega⟩
          · simp only [if_true, show ¬ ((5 : Int) = 4) from by decide, show ¬ ((5 : Int) = 1) from by decide, if_false, Nat.add_zero] at s4 s5 s1
            have S4 := Lib.hid s4
            have S5 := Lib.hid s5
            have S1 := Lib.hid s1
            clear hc1 hc2 hc3 hc4 hc5 s4 s5 s1 HFst
            go_wp2
            first
              | (go_roundw
                 case rel => exact ⟨q + 1, by go_num, by omega, by rw [S4.out], by rw [S5.out]; go_num, by rw [S1.out], rfl⟩
                 case measure => simp [intOf]; omega)
              | exact ⟨⟨q + 1, by go_num, by omega, by rw [S4.out], by rw [S5.out]; go_num, by rw [S1.out], rfl⟩, by simp [intOf]; omega⟩
          · simp only [if_true, show ¬ ((1 : Int) = 4) from by decide, show ¬ ((1 : Int) = 5) from by decide, if_false, Nat.add_zero] at s4 s5 s1
            have S4 := Lib.hid s4
            have S5 := Lib.hid s5
            have S1 := Lib.hid s1
            clear hc1 hc2 hc3 hc4 hc5 s4 s5 s1 HFst
            go_wp2
            first
              | (go_roundw
                 case rel => exact ⟨q + 1, by go_num, by omega, by rw [S4.out], by rw [S5.out], by rw [S1.out]; go_num, rfl⟩
                 case measure => simp [intOf]; omega)
              | exact ⟨⟨q + 1, by go_num, by omega, by rw [S4.out], by rw [S5.out], by rw [S1.out]; go_num, rfl⟩, by simp [intOf]; omega⟩
        · obtain rfl : q = bs.length := by omega
          rw [List.take_length, HOk.out.lists, HOk.out.items, HOk.out.paras]
          rw [show (if (false && decide (1 < k)) = true then 2 else 1) = 1 from rfl]
          clear l4 l5 l1
          go_wp2
          go_ret
          exact ⟨ret_bool (by simp), HB3.out⟩

set_option maxHeartbeats 16000000 in
theorem blockLists_bo (w : World) (n fr : Nat) (h1 : 1 ≤ n) (h15 : n ≤ 15) (hfr : fr ≤ 999) :
    Calls Tryd.prog 8 #[.int .i64 n, .int .i64 fr, .bool true, .bool true] w fun e w' => e = .returned (.bool true) ∧ Below w.heap.size w w' := by
  obtain ⟨i0, hi, hz0, hz1, hz2⟩ := info_parts infoString
  have hf1 : decide ((n : Int) < 1) = false := by simp; omega
  have hf2 : decide ((15 : Int) < (n : Int)) = false := by simp; omega
  have hf3 : decide ((fr : Int) < 0) = false := by simp <;> omega
  have hf4 : decide ((999 : Int) < (fr : Int)) = false := by simp; omega
  have HOk := Lib.hid (law_ok n fr true true h1 h15 hfr)
  have HFew := Lib.hid (few_law n fr true true h15 hfr)
  go_enter Tryd.func8, Tryd.ntmps8
  go_wp2_with fail
  refine (alive9_any _).mono ?_
  rintro e w1 ⟨rfl, b1⟩
  have HB1 := Lib.hid b1
  clear b1 hf1 hf2 hf3 hf4
  go_wp2_with fail
  go_loopw [9, 10] (fun z9 z10 wr => LsRel n fr true true w1 z9 z10 wr) (fun _ z10 _ => n - (intOf z10).toNat)
  case atStart => exact ⟨0, rfl, Nat.zero_le _, World.ownsRow_nil _ _ _ _, Below.refl _ _⟩
  case round =>
    obtain ⟨k, rfl, hk, hown, hbw⟩ := hrel
    have hss := hbw.size
    by_cases hp : k < n
    · have HO := Lib.hid hown
      have HBW := Lib.hid hbw
      have hlen := lawL_len n fr true true k
      have hl2 : (lawL n fr true true k).length ≤ 30 := by
        rw [hlen]
        have := Nat.mul_le_mul hk (show 1 + (blk1 true).length ≤ 2 by decide)
        omega
      clear hown hbw hlen
      rename World => w2
      go_wp2_with fail
      go_loopw [11, 12] (fun zd zv wr => DgRel (fr + k) w2 zd zv wr) (fun zd zv _ => (intOf zv).toNat + (if Lib.strSize zd = 0 then 1 else 0))
      case atStart => exact ⟨6, fr + k, ⟨#[]⟩, by go_num, rfl, rfl, by omega, rfl, Below.refl _ _⟩
      case round =>
        obtain ⟨f, v, D, rfl, rfl, hD, hvf, hfD, hb2⟩ := hrel
        have hs2 := hb2.size
        have hD6 : D.size ≤ 6 := by omega
        have hv6 : v < 1000000 := Nat.lt_of_lt_of_le hvf (by
          have := Nat.pow_le_pow_right (n := 10) (by omega) (show f ≤ 6 by omega)
          simpa using this)
        by_cases hc : 0 < v ∨ D.size = 0
        · obtain ⟨g, hm1, hm2, hm3⟩ := dg_more hD hvf hfD hc
          have HM1 := Lib.hid hm1
          have HM2 := Lib.hid hm2
          have HM3 := Lib.hid hm3
          have HB2 := Lib.hid hb2
          clear hD hvf hfD hm1 hm2 hm3 hb2
          have k0 := fun W => run_string_add_sum (P := Tryd.prog) W (⟨#[(48 + (v : Int) % 10).toNat.toUInt8]⟩ : ByteArray) D (by show 1 + _ ≤ _; omega)
          have hom : ((⟨#[48 + UInt8.ofNat (v % 10)]⟩ : ByteArray) ++ D).size = 1 + D.size := by rw [ByteArray.size_append]; rfl
          have HOM := Lib.hid hom
          clear hom
          by_cases hv0 : 0 < v
          · have hcv := conv_one wr (48 + (v : Int) % 10) (by omega) (by omega)
            have f0 : decide ((0 : Int) < (v : Int)) = true := by simp; omega
            clear hc
            go_wp2
            refine ⟨⟨g, v / 10, _, by go_num, rfl, HM1.out, HM2.out, HM3.out, below_one HB2.out hs2 _⟩, ?_⟩
            rw [Lib.strSize_string, HOM.out, if_neg (by omega), Lib.strSize_string]
            simp only [intOf]
            split <;> omega
          · obtain rfl : v = 0 := by omega
            have hD0 : D.size = 0 := by omega
            have hnl : D.data.toList = [] := List.eq_nil_of_length_eq_zero (by simpa using hD0)
            have hde : D.toList.isEmpty = true := by rw [ByteArray.toList_eq, hnl]; rfl
            have hcv : (convert 36 9 (.slice (some ⟨wr.heap.size, 0, none⟩) 1 1)).run Tryd.prog (wr.alloc (.cells #[.int .u8 48] 5)) = .ok (.string ⟨#[48]⟩) (wr.alloc (.cells #[.int .u8 48] 5)) := conv_one wr 48 (by decide) (by decide)
            have k1 := fun W => run_string_add_sum (P := Tryd.prog) W (⟨#[48]⟩ : ByteArray) D (by show 1 + _ ≤ _; omega)
            have HD0 := Lib.hid hD0
            clear hc hv0 hnl hD0 k0
            go_wp2
            refine ⟨⟨g, 0, _, rfl, rfl, HM1.out, HM2.out, HM3.out, below_one HB2.out hs2 _⟩, ?_⟩
            rw [Lib.strSize_string, show ((⟨#[48]⟩ : ByteArray) ++ D).size = 1 + D.size from HOM.out, if_neg (by omega), Lib.strSize_string, if_pos HD0.out]
            simp [intOf]
        · obtain rfl : v = 0 := by omega
          have hD1 : 0 < D.size := by omega
          have hde := toList_empty hD1
          have hDl := dg_done hD hD1
          have HDL := Lib.hid hDl
          have HB2 := Lib.hid (HBW.out.trans (hb2.mono hss))
          have HO2 := Lib.hid (ownsRow_below HO.out hb2)
          have hsw : w1.heap.size ≤ wr.heap.size := by omega
          clear hD hvf hfD hb2 hDl hc
          by_cases hlast : k + 1 = n
          · have HSucc := Lib.hid (show lawL n fr true true (k + 1) = lawL n fr true true k ++ (rowN 41 (fr + k) :: blk1 true) from by rw [lawL_succ, decide_eq_true hlast]; rfl)
            have hq : ((k : Int) == (n : Int) - 1) = true := by simp; omega
            have hk1 : k + 1 ≤ n := by omega
            clear hlast
            have z1 : (D ++ (⟨#[41]⟩ : ByteArray)).size ≤ 7 := by rw [ByteArray.size_append]; show _ + 1 ≤ _; omega
            have k1 := fun W => run_string_add_sum (P := Tryd.prog) W D (⟨#[41]⟩ : ByteArray) (by show _ + 1 ≤ _; omega)
            have k2 := fun W => run_string_add_sum (P := Tryd.prog) W (D ++ (⟨#[41]⟩ : ByteArray)) (⟨#[32, 120]⟩ : ByteArray) (by show _ + 2 ≤ _; omega)
            have HTx := Lib.hid (row_text (sg := 41) HDL.out)
            obtain ⟨Y, hY⟩ : ∃ Y, (D ++ (⟨#[41]⟩ : ByteArray)) ++ (⟨#[32, 120]⟩ : ByteArray) = Y := ⟨_, rfl⟩
            rw [hY] at k2 HTx
            have hnw := cells_one wr (.string Y) 9
            have hrow2 := HO2.out.alloc (.cells #[.string Y] 9)
            clear hY hp
            go_wp2_with (at_builtin; refine wpList_append_own _ rfl _ _ 22 rfl w1.heap.size 9 i0 (.string ByteArray.empty) 1 16 Tryd.underlying22 hi hz0 hz1 hz2 rfl (by decide) _ _ _ rfl hrow2 ⟨wr.heap.size, 0, none⟩ 1 1 [.string Y] rfl rfl hnw (by simp [Value.oneCell']) (by unfold maxLen; omega) (by omega) (by simp; omega) ?_)
            intro v' w3 hown' hgrow _
            have HB3 := Lib.hid ((HB2.out.alloc hsw (.cells #[.string Y] 9)).trans (below_of_grown hgrow (fun g hg => (hrow2.lt g hg).1) (by simp; omega)))
            have hs3 := HB3.out.size
            have HO3 := Lib.hid (show w3.ownsRow w1.heap.size 9 1 v' ((lawL n fr true true k).length + 1) (strs (lawL n fr true true k ++ [rowN 41 (fr + k)])) from by
              rw [strs_append, strs_one, text_is HTx.out]
              exact hown')
            clear hown' hgrow hrow2 hnw
            have hnw2 := cells_one w3 (.string ⟨#[]⟩) 9
            have hrow3 := HO3.out.alloc (.cells #[.string ⟨#[]⟩] 9)
            go_wp2_with (at_builtin; refine wpList_append_own _ rfl _ _ 22 rfl w1.heap.size 9 i0 (.string ByteArray.empty) 1 16 Tryd.underlying22 hi hz0 hz1 hz2 rfl (by decide) _ _ _ rfl hrow3 ⟨w3.heap.size, 0, none⟩ 1 1 [.string ⟨#[]⟩] rfl rfl hnw2 (by simp [Value.oneCell']) (by unfold maxLen; omega) (by omega) (by simp; omega) ?_)
            intro v4 w4 hown4 hgrow4 _
            have HB4 := Lib.hid ((HB3.out.alloc hs3 (.cells #[.string ⟨#[]⟩] 9)).trans (below_of_grown hgrow4 (fun g hg => (hrow3.lt g hg).1) (by simp; omega)))
            have HO4 := Lib.hid (show w4.ownsRow w1.heap.size 9 1 v4 (lawL n fr true true (k + 1)).length (strs (lawL n fr true true (k + 1))) from by
              rw [HSucc.out, show rowN 41 (fr + k) :: blk1 true = [rowN 41 (fr + k)] ++ [[]] from rfl, ← List.append_assoc, List.length_append, List.length_append, strs_append _ [[]]]
              exact hown4)
            clear hown4 hgrow4 hrow3 hnw2
            go_wp2
            first
              | (go_roundw
                 case rel => exact ⟨k + 1, by go_num, by omega, HO4.out, HB4.out⟩
                 case measure => simp [intOf]; omega)
              | exact ⟨⟨k + 1, by go_num, by omega, HO4.out, HB4.out⟩, by simp [intOf]; omega⟩
          · have HSucc := Lib.hid (show lawL n fr true true (k + 1) = lawL n fr true true k ++ (rowN 46 (fr + k) :: blk1 true) from by rw [lawL_succ, decide_eq_false hlast]; rfl)
            have hq : ((k : Int) == (n : Int) - 1) = false := by simp; omega
            have hk1 : k + 1 ≤ n := by omega
            clear hlast
            have z1 : (D ++ (⟨#[46]⟩ : ByteArray)).size ≤ 7 := by rw [ByteArray.size_append]; show _ + 1 ≤ _; omega
            have k1 := fun W => run_string_add_sum (P := Tryd.prog) W D (⟨#[46]⟩ : ByteArray) (by show _ + 1 ≤ _; omega)
            have k2 := fun W => run_string_add_sum (P := Tryd.prog) W (D ++ (⟨#[46]⟩ : ByteArray)) (⟨#[32, 120]⟩ : ByteArray) (by show _ + 2 ≤ _; omega)
            have HTx := Lib.hid (row_text (sg := 46) HDL.out)
            obtain ⟨Y, hY⟩ : ∃ Y, (D ++ (⟨#[46]⟩ : ByteArray)) ++ (⟨#[32, 120]⟩ : ByteArray) = Y := ⟨_, rfl⟩
            rw [hY] at k2 HTx
            have hnw := cells_one wr (.string Y) 9
            have hrow2 := HO2.out.alloc (.cells #[.string Y] 9)
            clear hY hp
            go_wp2_with (at_builtin; refine wpList_append_own _ rfl _ _ 22 rfl w1.heap.size 9 i0 (.string ByteArray.empty) 1 16 Tryd.underlying22 hi hz0 hz1 hz2 rfl (by decide) _ _ _ rfl hrow2 ⟨wr.heap.size, 0, none⟩ 1 1 [.string Y] rfl rfl hnw (by simp [Value.oneCell']) (by unfold maxLen; omega) (by omega) (by simp; omega) ?_)
            intro v' w3 hown' hgrow _
            have HB3 := Lib.hid ((HB2.out.alloc hsw (.cells #[.string Y] 9)).trans (below_of_grown hgrow (fun g hg => (hrow2.lt g hg).1) (by simp; omega)))
            have hs3 := HB3.out.size
            have HO3 := Lib.hid (show w3.ownsRow w1.heap.size 9 1 v' ((lawL n fr true true k).length + 1) (strs (lawL n fr true true k ++ [rowN 46 (fr + k)])) from by
              rw [strs_append, strs_one, text_is HTx.out]
              exact hown')
            clear hown' hgrow hrow2 hnw
            have hnw2 := cells_one w3 (.string ⟨#[]⟩) 9
            have hrow3 := HO3.out.alloc (.cells #[.string ⟨#[]⟩] 9)
            go_wp2_with (at_builtin; refine wpList_append_own _ rfl _ _ 22 rfl w1.heap.size 9 i0 (.string ByteArray.empty) 1 16 Tryd.underlying22 hi hz0 hz1 hz2 rfl (by decide) _ _ _ rfl hrow3 ⟨w3.heap.size, 0, none⟩ 1 1 [.string ⟨#[]⟩] rfl rfl hnw2 (by simp [Value.oneCell']) (by unfold maxLen; omega) (by omega) (by simp; omega) ?_)
            intro v4 w4 hown4 hgrow4 _
            have HB4 := Lib.hid ((HB3.out.alloc hs3 (.cells #[.string ⟨#[]⟩] 9)).trans (below_of_grown hgrow4 (fun g hg => (hrow3.lt g hg).1) (by simp; omega)))
            have HO4 := Lib.hid (show w4.ownsRow w1.heap.size 9 1 v4 (lawL n fr true true (k + 1)).length (strs (lawL n fr true true (k + 1))) from by
              rw [HSucc.out, show rowN 46 (fr + k) :: blk1 true = [rowN 46 (fr + k)] ++ [[]] from rfl, ← List.append_assoc, List.length_append, List.length_append, strs_append _ [[]]]
              exact hown4)
            clear hown4 hgrow4 hrow3 hnw2
            go_wp2
            first
              | (go_roundw
                 case rel => exact ⟨k + 1, by go_num, by omega, HO4.out, HB4.out⟩
                 case measure => simp [intOf]; omega)
              | exact ⟨⟨k + 1, by go_num, by omega, HO4.out, HB4.out⟩, by simp [intOf]; omega⟩
    · obtain rfl : k = n := by omega
      obtain ⟨A3, c3, rfl, hr3, _⟩ := RowOf.own hown
      have cp := bparse_any A3 c3 (lawL k fr true true k) wr hr3 HFew.out
      have HBW := Lib.hid (HB1.out.then hbw)
      have hll := hr3.strs_le
      clear hown hbw hr3
      go_wp2_with fail
      refine cp.mono ?_
      rintro e w3 ⟨v3, rfl, hown3, b3⟩
      obtain ⟨A4, c4, rfl, hat⟩ := BlksAt.own hown3
      have HB3 := Lib.hid (HBW.out.then b3)
      have HAt := Lib.hid hat
      have hle := hat.le
      have hcm := hat.cap
      have hpl : (parseB (lawL k fr true true k)).length ≤ 2600000 := by
        have h1 := (firstM_count 12).1 (lawL k fr true true k)
        have h2 := Nat.mul_le_mul_left (2 * 12 + 2) HFew.out.len
        show (allL 12 (lawL k fr true true k)).length ≤ _
        omega
      unfold maxLen at hcm
      generalize parseB (lawL k fr true true k) = bs at *
      clear hown3 b3 cp hat hll
      go_wp2_with fail
      go_loopw [15, 16, 17, 85] (fun z15 z16 z17 z85 wr => KnRel bs w3 z15 z16 z17 z85 wr) (fun _ _ _ z85 _ => bs.length - (intOf z85).toNat)
      case atStart => exact ⟨0, rfl, Nat.zero_le _, rfl, rfl, rfl, rfl⟩
      case round =>
        obtain ⟨q, rfl, hq, rfl, rfl, rfl, hwe⟩ := hrel
        have hwe := hwe.symm
        subst hwe
        have l4 := kinds_le 4 bs q
        have l5 := kinds_le 5 bs q
        have l1 := kinds_le 1 bs q
        by_cases hp : q < bs.length
        · obtain ⟨b9, off, hA, hb9, hc0, hc1, hc2, hc3, hc4, hc5⟩ := HAt.out.at hp
          have hkd := HOk.out.kind _ (List.getElem_mem hp)
          have HFst := Lib.hid (fun h0 : q = 0 => HOk.out.first bs[q] (by subst h0; exact List.getElem?_eq_getElem hp))
          have s4 := kinds_step hp 4
          have s5 := kinds_step hp 5
          have s1 := kinds_step hp 1
          generalize bs[q] = x at *
          obtain ⟨xk, xd, xn, xt, xs, xi⟩ := x
          dsimp only at hc0 hc1 hc2 hc3 hc4 hc5 hkd HFst s4 s5 s1
          subst hA
          generalize kinds 4 (bs.take q) = K4 at *
          generalize kinds 5 (bs.take q) = K5 at *
          generalize kinds 1 (bs.take q) = K1 at *
          rcases hkd with rfl | rfl | rfl
          · simp only [if_true, show ¬ ((4 : Int) = 5) from by decide, show ¬ ((4 : Int) = 1) from by decide, if_false, Nat.add_zero] at s4 s5 s1
            have S4 := Lib.hid s4
            have S5 := Lib.hid s5
            have S1 := Lib.hid s1
            clear hc1 hc4 hc5 s4 s5 s1
            by_cases h0 : q = 0
            · obtain ⟨_, rfl, ht⟩ := HFst.out h0
              have hq0 : ((q : Int) == 0) = true := by simp; omega
              by_cases hn1 : k = 1
              · have g1 : ((k : Int) == 1) = true := by simp; omega
                have ht2 : xt = true := by rw [ht, decide_eq_true hn1]; rfl
                subst ht2
                clear h0 HFst ht hn1
                go_wp2
                first
                  | (go_roundw
                     case rel => exact ⟨q + 1, by go_num, by omega, by rw [S4.out]; go_num, by rw [S5.out], by rw [S1.out], rfl⟩
                     case measure => simp [intOf]; omega)
                  | exact ⟨⟨q + 1, by go_num, by omega, by rw [S4.out]; go_num, by rw [S5.out], by rw [S1.out], rfl⟩, by simp [intOf]; omega⟩
              · have g1 : ((k : Int) == 1) = false := by simp; omega
                by_cases hn2 : k = 2
                · have g2 : ((k : Int) == 2) = true := by simp; omega
                  have ht2 : xt = true := by rw [ht, decide_eq_false hn1, decide_eq_true hn2]; rfl
                  subst ht2
                  clear h0 HFst ht hn1 hn2
                  go_wp2
                  first
                    | (go_roundw
                       case rel => exact ⟨q + 1, by go_num, by omega, by rw [S4.out]; go_num, by rw [S5.out], by rw [S1.out], rfl⟩
                       case measure => simp [intOf]; omega)
                    | exact ⟨⟨q + 1, by go_num, by omega, by rw [S4.out]; go_num, by rw [S5.out], by rw [S1.out], rfl⟩, by simp [intOf]; omega⟩
                · have g2 : ((k : Int) == 2) = false := by simp; omega
                  have ht2 : xt = false := by rw [ht, decide_eq_false hn1, decide_eq_false hn2]; rfl
                  subst ht2
                  clear h0 HFst ht hn1 hn2
                  go_wp2
                  first
                    | (go_roundw
                       case rel => exact ⟨q + 1, by go_num, by omega, by rw [S4.out]; go_num, by rw [S5.out], by rw [S1.out], rfl⟩
                       case measure => simp [intOf]; omega)
                    | exact ⟨⟨q + 1, by go_num, by omega, by rw [S4.out]; go_num, by rw [S5.out], by rw [S1.out], rfl⟩, by simp [intOf]; omega⟩
            · have hq0 : ((q : Int) == 0) = false := by simp; omega
              clear h0 HFst
              go_wp2
              first
                | (go_roundw
                   case rel => exact ⟨q + 1, by go_num, by omega, by rw [S4.out]; go_num, by rw [S5.out], by rw [S1.out], rfl⟩
                   case measure => simp [intOf]; omega)
                | exact ⟨⟨q + 1, by go_num, by omega, by rw [S4.out]; go_num, by rw [S5.out], by rw [S1.out], rfl⟩, by simp [intOf]; omega⟩
          · simp only [if_true, show ¬ ((5 : Int) = 4) from by decide, show ¬ ((5 : Int) = 1) from by decide, if_false, Nat.add_zero] at s4 s5 s1
            have S4 := Lib.hid s4
            have S5 := Lib.hid s5
            have S1 := Lib.hid s1
            clear hc1 hc2 hc3 hc4 hc5 s4 s5 s1 HFst
            go_wp2
            first
              | (go_roundw
                 case rel => exact ⟨q + 1, by go_num, by omega, by rw [S4.out], by rw [S5.out]; go_num, by rw [S1.out], rfl⟩
                 case measure => simp [intOf]; omega)
              | exact ⟨⟨q + 1, by go_num, by omega, by rw [S4.out], by rw [S5.out]; go_num, by rw [S1.out], rfl⟩, by simp [intOf]; omega⟩
          · simp only [if_true, show ¬ ((1 : Int) = 4) from by decide, show ¬ ((1 : Int) = 5) from by decide, if_false, Nat.add_zero] at s4 s5 s1
            have S4 := Lib.hid s4
            have S5 := Lib.hid s5
            have S1 := Lib.hid s1
            clear hc1 hc2 hc3 hc4 hc5 s4 s5 s1 HFst
            go_wp2
            first
              | (go_roundw
                 case rel => exact ⟨q + 1, by go_num, by omega, by rw [S4.out], by rw [S5.out], by rw [S1.out]; go_num, rfl⟩
                 case measure => simp [intOf]; omega)
              | exact ⟨⟨q + 1, by go_num, by omega, by rw [S4.out], by rw [S5.out], by rw [S1.out]; go_num, rfl⟩, by simp [intOf]; omega⟩
        · obtain rfl : q = bs.length := by omega
          rw [List.take_length, HOk.out.lists, HOk.out.items, HOk.out.paras]
          clear l4 l5 l1
          by_cases hn1 : 1 < k
          · have g1 : decide ((1 : Int) < (k : Int)) = true := by simp; omega
            rw [decide_eq_true hn1, show (if (true && true) = true then 2 else 1) = 2 from rfl]
            clear hn1
            go_wp2
            go_ret
            exact ⟨ret_bool (by simp), HB3.out⟩
          · have g1 : decide ((1 : Int) < (k : Int)) = false := by simp; omega
            rw [decide_eq_false hn1, show (if (true && false) = true then 2 else 1) = 1 from rfl]
            clear hn1
            go_wp2
            go_ret
            exact ⟨ret_bool (by simp), HB3.out⟩

theorem blockLists_walk (w : World) (a0 : Int) (w0 : (Lit.int .i64 a0).wf = true) (a1 : Int) (w1 : (Lit.int .i64 a1).wf = true) (a2 : Bool) (a3 : Bool) :
    Calls Tryd.prog 8 #[.int .i64 a0, .int .i64 a1, .bool a2, .bool a3] w fun e w' => e = .returned (.bool true) ∧ Below w.heap.size w w' := by
  by_cases hg : 1 ≤ a0 ∧ a0 ≤ 15 ∧ 0 ≤ a1 ∧ a1 ≤ 999
  · obtain ⟨n, rfl⟩ : ∃ n : Nat, a0 = n := ⟨a0.toNat, by omega⟩
    obtain ⟨fr, rfl⟩ : ∃ n : Nat, a1 = n := ⟨a1.toNat, by omega⟩
    cases a2 with
    | false =>
      cases a3 with
      | false => exact blockLists_ns w n fr (by omega) (by omega) (by omega)
      | true => exact blockLists_no w n fr (by omega) (by omega) (by omega)
    | true =>
      cases a3 with
      | false => exact blockLists_bs w n fr (by omega) (by omega) (by omega)
      | true => exact blockLists_bo w n fr (by omega) (by omega) (by omega)
  · have hor : decide (a0 < 1) = true ∨ (decide (a0 < 1) = false ∧ decide (15 < a0) = true) ∨ (decide (a0 < 1) = false ∧ decide (15 < a0) = false ∧ decide (a1 < 0) = true) ∨ (decide (a0 < 1) = false ∧ decide (15 < a0) = false ∧ decide (a1 < 0) = false ∧ decide (999 < a1) = true) := by
      simp only [decide_eq_true_eq, decide_eq_false_iff_not]
      omega
    clear hg w0 w1
    rcases hor with f1 | ⟨f1, f2⟩ | ⟨f1, f2, f3⟩ | ⟨f1, f2, f3, f4⟩
    all_goals
      go_enter Tryd.func8, Tryd.ntmps8
      go_wp2_with fail
      refine (alive9_any _).mono ?_
      rintro e w1 ⟨rfl, b1⟩
      go_wp2
      go_ret
      exact ⟨rfl, b1⟩

end Go.Proofs.YtoleoigpijgboaaDoor
