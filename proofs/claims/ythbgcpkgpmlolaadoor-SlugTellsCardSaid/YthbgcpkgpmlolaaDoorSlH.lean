/-
  The laws of the layer slug: SlugMany.
-/
import Derived.Test.YthbgcpkgpmlolaaDoorSlF
import Derived.Test.YthbgcpkgpmlolaaDoorCvB
namespace Go.Proofs.YthbgcpkgpmlolaaDoor
open Go.RowKit Go.Maps
set_option linter.unusedSimpArgs false
set_option linter.unusedVariables false
set_option maxRecDepth 100000

theorem many_want (s : List UInt8) (k : Nat) (h1 : 1 ≤ k) (h2 : k ≤ 30) : slNext (slMany (slugL s) (k - 1)) s = (if k = 1 then slugL s else if k < 10 then slugL s ++ 45 :: [UInt8.ofNat (48 + k % 10)] else slugL s ++ 45 :: [UInt8.ofNat (48 + k / 10), UInt8.ofNat (48 + k % 10)]) := by
  rw [slNext_many s (k - 1) (by omega)]
  by_cases h3 : k = 1
  · subst h3; rfl
  · rw [if_neg (by omega), if_neg h3, show k - 1 + 1 = k from by omega]
    unfold slNum
    by_cases h4 : k < 10
    · rw [if_pos h4, Lib.decDigits_one h4, Nat.mod_eq_of_lt h4]
    · rw [if_neg h4, Lib.decDigits_two (by omega) (by omega)]
def ManyRel (S : List UInt8) (w : World) (b n : Nat) (kv : Value) (wr : World) : Prop := ∃ k : Nat, kv = .int .i64 k ∧ 1 ≤ k ∧ k ≤ n + 1 ∧ (∃ m, AncIs wr w.heap.size b m (slMany (slugL S) (k - 1))) ∧ Below w.heap.size w wr
theorem many_digit (q : Nat) (h : q < 10) : ((UInt8.ofNat (48 + q)).toNat : Int) = 48 + (q : Int) := by
  rw [UInt8.toNat_ofNat']; omega

set_option maxHeartbeats 8000000 in
theorem slugMany_walk (w : World) (h7 : SlW w) (a0 : ByteArray) (w0 : a0.size ≤ maxLen) (a1 : Int) (w1 : (Lit.int .i64 a1).wf = true) :
    Calls Tryd.prog 6 #[.string a0, .int .i64 a1] w fun e w' => e = .returned (.bool true) ∧ Below w.heap.size w w' := by
  have CA := Lib.hid (alive16_any w)
  unfold maxLen at w0
  by_cases hz : a0.size ≤ 60 ∧ 1 ≤ a1 ∧ a1 ≤ 30
  · obtain ⟨hz0, hz1, hz2⟩ := hz
    obtain ⟨n, rfl⟩ : ∃ n : Nat, a1 = n := ⟨a1.toNat, by omega⟩
    have g1 : decide ((n : Int) < 1) = false := by simp; omega
    have g2 : decide ((n : Int) > 30) = false := by simp; omega
    clear w1
    have c1 := fun W => of_any a0 W (by omega)
    have C1 := Lib.hid c1
    clear c1
    go_enter Tryd.func6, Tryd.ntmps6
    go_wp2_with fail
    refine CA.out.mono ?_
    rintro e w1 ⟨rfl, b1⟩
    have HB0 := Lib.hid b1
    have h0 : AncIs (w1.alloc (.cells #[.map none] 27)) w.heap.size w1.heap.size (.map none) [] := AncIs.new (heap_alloc_new _ _) b1.size
    have b0 := b1.alloc b1.size (.cells #[.map none] 27)
    have HH := Lib.hid h0
    have HB := Lib.hid b0
    clear h0 b0 b1
    go_wp2_with fail
    generalize hb : w1.heap.size = b at *
    generalize w1.alloc (.cells #[.map none] 27) = w2 at *
    refine (C1.out _).mono ?_
    rintro e w3 ⟨rfl, b3⟩
    have HB3 := Lib.hid (HB.out.then b3)
    have HH3 := Lib.hid (HH.out.below b3)
    clear b3
    go_wp2_with fail
    go_loopw [7] (fun kv wr => ManyRel a0.data.toList w b n kv wr) (fun kv _ => n + 1 - (intOf kv).toNat)
    case atStart => exact ⟨1, rfl, Nat.le_refl _, by omega, ⟨_, HH3.out⟩, HB3.out⟩
    case round =>
      obtain ⟨k, rfl, hk1, hk2, ⟨m, ha⟩, hbw⟩ := hrel
      by_cases hkn : k ≤ n
      · have hw := many_want a0.data.toList k hk1 (by omega)
        have hsn := slMany_snoc a0.data.toList (k - 1) (by omega)
        have hml := slMany_len (slugL a0.data.toList) (k - 1)
        rw [show k - 1 + 1 = k from by omega] at hsn
        have hl := slugL_len a0.data.toList
        by_cases hk9 : k < 10
        · by_cases hk0 : k = 1
          · subst hk0
            rw [if_pos rfl] at hw
            have hnxl : (slugL a0.data.toList).length ≤ maxLen := by unfold maxLen; omega
            rw [hw] at hsn
            have HBW := Lib.hid hbw
            have cn := next_any HBW.out.size ha a0 (by omega) (by rw [hml]; omega)
            rw [hw] at cn
            have CN := Lib.hid cn
            have HNL := Lib.hid hnxl
            clear ha hbw cn
            clear hw
            have hnl : (slugL a0.data.toList).length ≤ maxLen := HNL.out
            go_wp2_with fail
            refine CN.out.mono ?_
            rintro e w5 ⟨rfl, ⟨m5, h5, _⟩, _, b5⟩
            have ch := has_any h5 (slugL a0.data.toList) hnl
            rw [decide_eq_true (by simp)] at ch
            have CH := Lib.hid ch
            rw [hsn] at h5
            have HM := Lib.hid (And.intro h5 (HBW.out.trans b5))
            clear ch h5 b5 CN
            go_wp2_with fail
            refine CH.out.mono ?_
            rintro e w' ⟨rfl, rfl⟩
            go_wp2
            all_goals first
              | exact ⟨⟨1 + 1, by go_num, by omega, by omega, ⟨m5, by rw [Nat.add_sub_cancel]; exact HM.out.1⟩, HM.out.2⟩, by simp only [intOf]; omega⟩
              | (go_round
                 case rel => exact ⟨1 + 1, by go_num, by omega, by omega, ⟨m5, by rw [Nat.add_sub_cancel]; exact HM.out.1⟩, HM.out.2⟩
                 case measure => simp [intOf]; omega)
          · rw [if_neg hk0, if_pos hk9] at hw
            have hgt : 1 < k := by omega
            have hd : ((UInt8.ofNat (48 + k % 10)).toNat : Int) = 48 + (k : Int) % 10 := (many_digit _ (by omega)).trans (by omega)
            have hcv := fun W => conv_u8 (UInt8.ofNat (48 + k % 10)) W
            rw [hd] at hcv
            have hs1 : (⟨(slugL a0.data.toList).toArray⟩ : ByteArray).size = (slugL a0.data.toList).length := str_size _
            have r1 := fun W => run_string_add_sum (P := Tryd.prog) W (⟨(slugL a0.data.toList).toArray⟩ : ByteArray) (⟨#[45]⟩ : ByteArray) (by rw [hs1]; show _ + 1 ≤ _; omega)
            have eP : (⟨(slugL a0.data.toList).toArray⟩ : ByteArray) ++ (⟨#[45]⟩ : ByteArray) = ⟨(slugL a0.data.toList ++ [45]).toArray⟩ := str_cat _ [45]
            rw [eP] at r1
            have hs2 : (⟨(slugL a0.data.toList ++ [45]).toArray⟩ : ByteArray).size = (slugL a0.data.toList).length + 1 := by rw [str_size]; simp
            have r2 := fun W => run_string_add_sum (P := Tryd.prog) W (⟨(slugL a0.data.toList ++ [45]).toArray⟩ : ByteArray) (⟨#[UInt8.ofNat (48 + k % 10)]⟩ : ByteArray) (by rw [hs2]; show _ + 1 ≤ _; omega)
            have eQ : (⟨(slugL a0.data.toList ++ [45]).toArray⟩ : ByteArray) ++ (⟨#[UInt8.ofNat (48 + k % 10)]⟩ : ByteArray) = ⟨(slNext (slMany (slugL a0.data.toList) (k - 1)) a0.data.toList).toArray⟩ := by rw [hw]; rw [show (⟨#[UInt8.ofNat (48 + k % 10)]⟩ : ByteArray) = ⟨[UInt8.ofNat (48 + k % 10)].toArray⟩ from rfl, str_cat]; simp
            rw [eQ] at r2
            have hnxl : (slNext (slMany (slugL a0.data.toList) (k - 1)) a0.data.toList).length ≤ maxLen := by rw [hw]; unfold maxLen; simp; omega
            clear eP eQ hs1 hs2 hd
            generalize UInt8.ofNat (48 + k % 10) = d at *
            have HBW := Lib.hid (hbw.alloc hbw.size (.cells #[.int .u8 (48 + (k : Int) % 10)] 5))
            have CN := Lib.hid (next_any (HBW.out.size) (ha.below ((Below.refl wr.heap.size wr).alloc (Nat.le_refl _) (.cells #[.int .u8 (48 + (k : Int) % 10)] 5))) a0 (by omega) (by rw [hml]; omega))
            clear ha hbw
            generalize slNext (slMany (slugL a0.data.toList) (k - 1)) a0.data.toList = nx at *
            have HNL := Lib.hid hnxl
            clear hw
            have hnl : nx.length ≤ maxLen := HNL.out
            go_wp2_with fail
            refine CN.out.mono ?_
            rintro e w5 ⟨rfl, ⟨m5, h5, _⟩, _, b5⟩
            have ch := has_any h5 nx hnl
            rw [decide_eq_true (by simp)] at ch
            have CH := Lib.hid ch
            rw [hsn] at h5
            have HM := Lib.hid (And.intro h5 (HBW.out.trans b5))
            clear ch h5 b5 CN
            go_wp2_with fail
            refine CH.out.mono ?_
            rintro e w' ⟨rfl, rfl⟩
            go_wp2
            all_goals first
              | exact ⟨⟨k + 1, by go_num, by omega, by omega, ⟨m5, by rw [Nat.add_sub_cancel]; exact HM.out.1⟩, HM.out.2⟩, by simp only [intOf]; omega⟩
              | (go_round
                 case rel => exact ⟨k + 1, by go_num, by omega, by omega, ⟨m5, by rw [Nat.add_sub_cancel]; exact HM.out.1⟩, HM.out.2⟩
                 case measure => simp [intOf]; omega)
        · have hk0 : ¬ k = 1 := by omega
          rw [if_neg hk0, if_neg hk9] at hw
          have hgt : 1 < k := by omega
          have hge : 10 ≤ k := by omega
          have hd : ((UInt8.ofNat (48 + k % 10)).toNat : Int) = 48 + (k : Int) % 10 := (many_digit _ (by omega)).trans (by omega)
          have hcv := fun W => conv_u8 (UInt8.ofNat (48 + k % 10)) W
          rw [hd] at hcv
          have hs1 : (⟨(slugL a0.data.toList).toArray⟩ : ByteArray).size = (slugL a0.data.toList).length := str_size _
          have r1 := fun W => run_string_add_sum (P := Tryd.prog) W (⟨(slugL a0.data.toList).toArray⟩ : ByteArray) (⟨#[45]⟩ : ByteArray) (by rw [hs1]; show _ + 1 ≤ _; omega)
          have eP : (⟨(slugL a0.data.toList).toArray⟩ : ByteArray) ++ (⟨#[45]⟩ : ByteArray) = ⟨(slugL a0.data.toList ++ [45]).toArray⟩ := str_cat _ [45]
          rw [eP] at r1
          have hs2 : (⟨(slugL a0.data.toList ++ [45]).toArray⟩ : ByteArray).size = (slugL a0.data.toList).length + 1 := by rw [str_size]; simp
          have hd10 : ((UInt8.ofNat (48 + k / 10)).toNat : Int) = 48 + (k : Int) / 10 := (many_digit _ (by omega)).trans (by omega)
          have hcv2 := fun W => conv_u8 (UInt8.ofNat (48 + k / 10)) W
          rw [hd10] at hcv2
          have r2 := fun W => run_string_add_sum (P := Tryd.prog) W (⟨(slugL a0.data.toList ++ [45]).toArray⟩ : ByteArray) (⟨#[UInt8.ofNat (48 + k / 10)]⟩ : ByteArray) (by rw [hs2]; show _ + 1 ≤ _; omega)
          have eR : (⟨(slugL a0.data.toList ++ [45]).toArray⟩ : ByteArray) ++ (⟨#[UInt8.ofNat (48 + k / 10)]⟩ : ByteArray) = ⟨(slugL a0.data.toList ++ [45, UInt8.ofNat (48 + k / 10)]).toArray⟩ := by rw [show (⟨#[UInt8.ofNat (48 + k / 10)]⟩ : ByteArray) = ⟨[UInt8.ofNat (48 + k / 10)].toArray⟩ from rfl, str_cat]; simp
          rw [eR] at r2
          have hs3 : (⟨(slugL a0.data.toList ++ [45, UInt8.ofNat (48 + k / 10)]).toArray⟩ : ByteArray).size = (slugL a0.data.toList).length + 2 := by rw [str_size]; simp
          have r3 := fun W => run_string_add_sum (P := Tryd.prog) W (⟨(slugL a0.data.toList ++ [45, UInt8.ofNat (48 + k / 10)]).toArray⟩ : ByteArray) (⟨#[UInt8.ofNat (48 + k % 10)]⟩ : ByteArray) (by rw [hs3]; show _ + 1 ≤ _; omega)
          have eQ : (⟨(slugL a0.data.toList ++ [45, UInt8.ofNat (48 + k / 10)]).toArray⟩ : ByteArray) ++ (⟨#[UInt8.ofNat (48 + k % 10)]⟩ : ByteArray) = ⟨(slNext (slMany (slugL a0.data.toList) (k - 1)) a0.data.toList).toArray⟩ := by rw [hw]; rw [show (⟨#[UInt8.ofNat (48 + k % 10)]⟩ : ByteArray) = ⟨[UInt8.ofNat (48 + k % 10)].toArray⟩ from rfl, str_cat]; simp
          rw [eQ] at r3
          have hnxl : (slNext (slMany (slugL a0.data.toList) (k - 1)) a0.data.toList).length ≤ maxLen := by rw [hw]; unfold maxLen; simp; omega
          have hcvB := hcv (wr.alloc (.cells #[.int .u8 (48 + (k : Int) / 10)] 5))
          rw [alloc_size] at hcvB
          clear eP eQ eR hs1 hs2 hs3 hd hd10
          generalize UInt8.ofNat (48 + k % 10) = d at *
          generalize UInt8.ofNat (48 + k / 10) = d2 at *
          have HBW := Lib.hid ((hbw.alloc hbw.size (.cells #[.int .u8 (48 + (k : Int) / 10)] 5)).alloc (hbw.alloc hbw.size (.cells #[.int .u8 (48 + (k : Int) / 10)] 5)).size (.cells #[.int .u8 (48 + (k : Int) % 10)] 5))
          have CN := Lib.hid (next_any (HBW.out.size) (ha.below (((Below.refl wr.heap.size wr).alloc (Nat.le_refl _) (.cells #[.int .u8 (48 + (k : Int) / 10)] 5)).alloc (((Below.refl wr.heap.size wr).alloc (Nat.le_refl _) (.cells #[.int .u8 (48 + (k : Int) / 10)] 5)).size) (.cells #[.int .u8 (48 + (k : Int) % 10)] 5))) a0 (by omega) (by rw [hml]; omega))
          clear ha hbw
          generalize slNext (slMany (slugL a0.data.toList) (k - 1)) a0.data.toList = nx at *
          have HNL := Lib.hid hnxl
          clear hw
          have hnl : nx.length ≤ maxLen := HNL.out
          go_wp2_with fail
          refine CN.out.mono ?_
          rintro e w5 ⟨rfl, ⟨m5, h5, _⟩, _, b5⟩
          have ch := has_any h5 nx hnl
          rw [decide_eq_true (by simp)] at ch
          have CH := Lib.hid ch
          rw [hsn] at h5
          have HM := Lib.hid (And.intro h5 (HBW.out.trans b5))
          clear ch h5 b5 CN
          go_wp2_with fail
          refine CH.out.mono ?_
          rintro e w' ⟨rfl, rfl⟩
          go_wp2
          all_goals first
            | exact ⟨⟨k + 1, by go_num, by omega, by omega, ⟨m5, by rw [Nat.add_sub_cancel]; exact HM.out.1⟩, HM.out.2⟩, by simp only [intOf]; omega⟩
            | (go_round
               case rel => exact ⟨k + 1, by go_num, by omega, by omega, ⟨m5, by rw [Nat.add_sub_cancel]; exact HM.out.1⟩, HM.out.2⟩
               case measure => simp [intOf]; omega)
      · have hgt : n < k := by omega
        have HBW := Lib.hid hbw
        clear hbw ha
        go_wp2
        go_ret
        exact ⟨rfl, HBW.out⟩
  · by_cases h1 : 60 < a0.size
    · go_enter Tryd.func6, Tryd.ntmps6
      go_wp2_with fail
      refine CA.out.mono ?_
      rintro e w1 ⟨rfl, b1⟩
      go_wp2
      go_ret
      exact ⟨rfl, b1⟩
    · by_cases h2 : a1 < 1
      · have h1' : a0.size ≤ 60 := by omega
        clear hz h1
        go_enter Tryd.func6, Tryd.ntmps6
        go_wp2_with fail
        refine CA.out.mono ?_
        rintro e w1 ⟨rfl, b1⟩
        go_wp2
        go_ret
        exact ⟨rfl, b1⟩
      · have h1' : a0.size ≤ 60 := by omega
        have h2' : 1 ≤ a1 := by omega
        have h3 : 30 < a1 := by omega
        clear hz h1 h2
        go_enter Tryd.func6, Tryd.ntmps6
        go_wp2_with fail
        refine CA.out.mono ?_
        rintro e w1 ⟨rfl, b1⟩
        go_wp2
        go_ret
        exact ⟨rfl, b1⟩

end Go.Proofs.YthbgcpkgpmlolaaDoor
