/-
  The laws of the layer define: DefineTakes: its walk.
-/
import Derived.Test.YtioolcnoiaoflaaDoorDgP
import Derived.Test.YtioolcnoiaoflaaDoorCvB
import Derived.Test.YtioolcnoiaoflaaDoorReg
namespace Go.Proofs.YtioolcnoiaoflaaDoor
open Go.RowKit
set_option linter.unusedSimpArgs false
set_option linter.unusedVariables false
set_option maxRecDepth 100000

def DtkRel (z : List ByteArray) (w : World) (s i : Value) (wr : World) : Prop :=
  ∃ (k : Nat) (S : ByteArray), i = .int .i64 k ∧ s = .string S ∧ k ≤ z.length ∧ TkOk z k ∧ S.data.toList = tkT z k ∧ S.size ≤ 28 * k ∧ Below w.heap.size w wr

def DtkRel3 (n : Nat) (w : World) (i : Value) (wr : World) : Prop := ∃ k : Nat, i = .int .i64 k ∧ k ≤ n ∧ Below w.heap.size w wr
set_option maxHeartbeats 8000000 in
theorem defineTakes_in (w : World) (hv : Elv w) (A0 : Option Addr) (c0 : Nat) (z0 : List ByteArray) (r0 : RowOf w A0 c0 (z0.map Value.string)) (w0 : ∀ s ∈ z0, s.size ≤ maxLen) (a1 : ByteArray) (h1 : z0.length ≤ 12) (h2 : a1.size ≤ 60) :
    Calls Tryd.prog 5 #[.slice A0 z0.length c0, .string a1] w fun e w' => e = .returned (.bool true) ∧ Below w.heap.size w w' := by
  have ca := alive11_any w hv
  have HV := Lib.hid hv
  have HR := Lib.hid r0
  have HW0 := Lib.hid w0
  clear hv r0 w0
  go_enter Tryd.func5, Tryd.ntmps5
  go_wp2_with fail
  refine ca.mono ?_
  rintro e' w1 ⟨rfl, b1⟩
  go_wp2_with fail
  go_loopw [5, 28] (fun s i wr => DtkRel z0 w s i wr) (fun _ i _ => z0.length - (intOf i).toNat)
  case atStart => exact ⟨0, ByteArray.empty, rfl, rfl, Nat.zero_le _, fun i hi => by omega, rfl, Nat.zero_le _, b1⟩
  case round =>
    obtain ⟨k, S, rfl, rfl, hk, hok, hS, hSz, hbw⟩ := hrel
    have HOK := Lib.hid hok
    have HS := Lib.hid hS
    clear hok hS
    by_cases hp : k < z0.length
    · have hr := HR.out.below hbw
      obtain ⟨gb, off, hA, hgb, hcs⟩ := hr.at (by intro e; have := congrArg List.length e; simp at this; rw [this] at hp; simp at hp)
      have hbc := hcs k (by simpa using hp)
      rw [List.getElem_map] at hbc
      have hX : tkN z0 k = z0[k] := by unfold tkN; rw [List.getD_eq_getElem?_getD, List.getElem?_eq_getElem hp]; rfl
      have hXl := HW0.out z0[k] (List.getElem_mem hp)
      unfold maxLen at hXl
      have HX := Lib.hid hX
      subst hA
      clear hr hcs hX
      generalize z0[k] = X at *
      by_cases hn0 : X.data.toList = []
      · obtain ⟨e1, e2⟩ := emp_yes hn0
        clear hn0
        go_wp2
        go_ret
        exact ⟨rfl, hbw⟩
      · obtain ⟨e1, e2⟩ := emp_no hn0
        by_cases h20 : X.size ≤ 20
        · go_wp2_with fail
          go_loop [8] (fun i => DnonRel X i) (fun i => X.size - (intOf i).toNat)
          case atStart => exact ⟨0, rfl, Nat.zero_le _, by intro b hb; simp at hb⟩
          case round =>
            obtain ⟨m, rfl, hm, hL⟩ := hrel
            by_cases hp2 : m < X.size
            · have hix := index_str X m m rfl hp2
              by_cases hb : 97 ≤ X[m].toNat ∧ X[m].toNat ≤ 122
              · have HL := Lib.hid (dlow_snoc hL hp2 hb.1 hb.2)
                obtain ⟨hb1, hb2⟩ := hb
                clear hL
                generalize X[m] = b at *
                go_wp2
                go_round
                case rel => exact ⟨m + 1, by go_num, by omega, HL.out⟩
                case measure => simp [intOf]; omega
              · have hcase : X[m].toNat < 97 ∨ 97 ≤ X[m].toNat ∧ 122 < X[m].toNat := by omega
                clear hL hb
                generalize X[m] = b at *
                rcases hcase with hb | ⟨hb, hb2⟩
                all_goals
                  go_wp2
                  go_ret
                  exact ⟨rfl, hbw⟩
            · obtain rfl : m = X.size := by omega
              rw [List.take_of_length_le (by simp)] at hL
              have HL := Lib.hid hL
              have hcv := tgConv_byte wr (97 + (k : Int)) (by omega) (by omega)
              rw [show (97 + (k : Int)).toNat.toUInt8 = tkC k from by unfold tkC; congr 1] at hcv
              have s0 := fun W => run_string_add_sum (P := Tryd.prog) W (⟨#[91]⟩ : ByteArray) X (by (try simp only [ByteArray.size_append]); show 1 + X.size ≤ _; omega)
              have s1 := fun W => run_string_add_sum (P := Tryd.prog) W ((⟨#[91]⟩ : ByteArray) ++ X) (⟨#[93, 58, 32, 47, 117]⟩ : ByteArray) (by (try simp only [ByteArray.size_append]); show 1 + X.size + 5 ≤ _; omega)
              have s2 := fun W => run_string_add_sum (P := Tryd.prog) W (((⟨#[91]⟩ : ByteArray) ++ X) ++ (⟨#[93, 58, 32, 47, 117]⟩ : ByteArray)) (⟨#[tkC k]⟩ : ByteArray) (by (try simp only [ByteArray.size_append]); show 1 + X.size + 5 + 1 ≤ _; omega)
              have s3 := fun W => run_string_add_sum (P := Tryd.prog) W ((((⟨#[91]⟩ : ByteArray) ++ X) ++ (⟨#[93, 58, 32, 47, 117]⟩ : ByteArray)) ++ (⟨#[tkC k]⟩ : ByteArray)) (⟨#[10]⟩ : ByteArray) (by (try simp only [ByteArray.size_append]); show 1 + X.size + 5 + 1 + 1 ≤ _; omega)
              have hLz : (((((⟨#[91]⟩ : ByteArray) ++ X) ++ (⟨#[93, 58, 32, 47, 117]⟩ : ByteArray)) ++ (⟨#[tkC k]⟩ : ByteArray)) ++ (⟨#[10]⟩ : ByteArray)).size = X.size + 8 := by simp only [ByteArray.size_append]; show 1 + X.size + 5 + 1 + 1 = _; omega
              have s4 := fun W => run_string_add_sum (P := Tryd.prog) W S (((((⟨#[91]⟩ : ByteArray) ++ X) ++ (⟨#[93, 58, 32, 47, 117]⟩ : ByteArray)) ++ (⟨#[tkC k]⟩ : ByteArray)) ++ (⟨#[10]⟩ : ByteArray)) (by rw [hLz]; omega)
              have HT := Lib.hid (show (S ++ (((((⟨#[91]⟩ : ByteArray) ++ X) ++ (⟨#[93, 58, 32, 47, 117]⟩ : ByteArray)) ++ (⟨#[tkC k]⟩ : ByteArray)) ++ (⟨#[10]⟩ : ByteArray))).data.toList = tkT z0 (k + 1) from by
                rw [tkT_succ, ByteArray.data_append, Array.toList_append, HS.out]
                congr 1
                unfold tkL
                rw [HX.out]
                simp)
              have HZ := Lib.hid (show (S ++ (((((⟨#[91]⟩ : ByteArray) ++ X) ++ (⟨#[93, 58, 32, 47, 117]⟩ : ByteArray)) ++ (⟨#[tkC k]⟩ : ByteArray)) ++ (⟨#[10]⟩ : ByteArray))).size ≤ 28 * (k + 1) from by rw [ByteArray.size_append, hLz]; omega)
              have HO := Lib.hid (show TkOk z0 (k + 1) from by
                intro i hi
                by_cases h : i < k
                · exact HOK.out i h
                · obtain rfl : i = k := by omega
                  rw [HX.out]
                  exact ⟨HL.out, hn0, h20⟩)
              clear hLz hn0 hL
              go_wp2
              go_roundw
              case rel => exact ⟨k + 1, _, by go_num, rfl, by omega, HO.out, HT.out, HZ.out, hbw.alloc hbw.size _⟩
              case measure => simp [intOf]; omega
        · have h21 : 20 < X.size := by omega
          clear hn0 h20
          go_wp2
          go_ret
          exact ⟨rfl, hbw⟩
    · obtain rfl : k = z0.length := by omega
      have hok := HOK.out
      have hS := HS.out
      have hT : ((S ++ (⟨#[120]⟩ : ByteArray)) ++ a1).data.toList = tkT z0 z0.length ++ 120 :: a1.data.toList := by
        rw [← hS]; simp
      have ct := fun W h => dtake_any ((S ++ (⟨#[120]⟩ : ByteArray)) ++ a1) W h (by simp only [ByteArray.size_append]; show S.size + 1 + a1.size ≤ _; omega)
      rw [hT, tk_take hok h1, tk_defs] at ct
      simp only at ct
      rw [show (⟨(120 :: a1.data.toList).toArray⟩ : ByteArray) = (⟨#[120]⟩ : ByteArray) ++ a1 from by apply ByteArray.ext; apply Array.ext'; simp] at ct
      have hdl : ((List.range z0.length).map (tkD z0)).length = z0.length := by simp
      have s0 := fun W => run_string_add_sum (P := Tryd.prog) W S (⟨#[120]⟩ : ByteArray) (by show S.size + 1 ≤ _; omega)
      have s1 := fun W => run_string_add_sum (P := Tryd.prog) W (S ++ (⟨#[120]⟩ : ByteArray)) a1 (by simp only [ByteArray.size_append]; show S.size + 1 + a1.size ≤ _; omega)
      have s2 := fun W => run_string_add_sum (P := Tryd.prog) W (⟨#[120]⟩ : ByteArray) a1 (by show 1 + a1.size ≤ _; omega)
      have CT := Lib.hid ct
      have HDL := Lib.hid hdl
      have HBW := Lib.hid hbw
      clear ct hT hok hS hdl hbw
      go_wp2_with fail
      refine (CT.out _ (HV.out.below HBW.out)).mono ?_
      rintro e' w5 ⟨v, rfl, hown, b5⟩
      obtain ⟨Ad, cd, rfl, hat⟩ := EltsAt.own dfC_length hown
      rw [HDL.out]
      have HB5 := Lib.hid (HBW.out.then b5)
      have HAT := Lib.hid hat
      have s1' := fun W => run_string_add_sum (P := Tryd.prog) W (⟨#[120]⟩ : ByteArray) a1 (by show 1 + a1.size ≤ _; omega)
      generalize (⟨#[120]⟩ : ByteArray) ++ a1 = G at *
      clear hown hat b5 s0 s1 s2 CT
      go_wp2_with fail
      go_loopw [90] (fun i wr2 => DtkRel3 z0.length w5 i wr2) (fun i _ => z0.length - (intOf i).toNat)
      case atStart => exact ⟨0, rfl, Nat.zero_le _, Below.refl _ _⟩
      case round =>
        clear s1'
        obtain ⟨k, rfl, hk, hb6⟩ := hrel
        by_cases hp2 : k < z0.length
        · have hr := HR.out.below (HB5.out.trans (hb6.mono HB5.out.size))
          obtain ⟨gb, off, hA, hgb, hcs⟩ := hr.at (by intro e; have := congrArg List.length e; simp at this; rw [this] at hp2; simp at hp2)
          have hbc := hcs k (by simpa using hp2)
          rw [List.getElem_map] at hbc
          have hX : tkN z0 k = z0[k] := by unfold tkN; rw [List.getD_eq_getElem?_getD, List.getElem?_eq_getElem hp2]; rfl
          have hat2 := HAT.out.below hb6
          obtain ⟨b2, o2, hA2, hb2, hcc⟩ := hat2.at (k := k) (by rw [HDL.out]; exact hp2)
          have hgk : ((List.range z0.length).map (tkD z0))[k]'(by rw [HDL.out]; exact hp2) = tkD z0 k := by simp
          rw [hgk] at hcc
          have d0 := hcc 0 _ rfl
          have d1 := hcc 1 _ rfl
          have d4 := hcc 4 _ rfl
          unfold tkD at d0 d1 d4
          simp only at d0 d1 d4
          rw [hX, Lib.mk_data] at d0
          rw [show (⟨(tkU k).toArray⟩ : ByteArray) = (⟨#[47, 117]⟩ : ByteArray) ++ (⟨#[tkC k]⟩ : ByteArray) from rfl] at d1
          have s3 := fun W => run_string_add_sum (P := Tryd.prog) W (⟨#[47, 117]⟩ : ByteArray) (⟨#[tkC k]⟩ : ByteArray) (by show 2 + 1 ≤ _; omega)
          subst hA
          subst hA2
          clear hr hcs hat2 hcc hgk hX
          generalize z0[k] = X at *
          generalize (⟨#[47, 117]⟩ : ByteArray) ++ (⟨#[tkC k]⟩ : ByteArray) = U at *
          go_wp2_with fail
          have HS := Lib.hid (show wr.drew.cell? ⟨b2, o2 + k * 5, none⟩ = some (.string X) ∧ wr.drew.cell? ⟨b2, o2 + k * 5 + 1, none⟩ = some (.string U) ∧ wr.drew.cell? ⟨b2, o2 + k * 5 + 4, none⟩ = some (.bool false) ∧ Below w5.heap.size w5 wr.drew from ⟨d0, d1, d4, hb6.drew⟩)
          refine wp_region_N (fun W => W.cell? ⟨b2, o2 + k * 5, none⟩ = some (.string X) ∧ W.cell? ⟨b2, o2 + k * 5 + 1, none⟩ = some (.string U) ∧ W.cell? ⟨b2, o2 + k * 5 + 4, none⟩ = some (.bool false) ∧ Below w5.heap.size w5 W) (fun _ => true) (by kernel_rfl) ?_
          have hb7 : b2 < wr.drew.heap.size := hb2
          clear d0 d1 d4 hb6 hbc hb2
          generalize wr.drew = wd at *
          have bal := (Below.refl wd.heap.size wd).alloc (Nat.le_refl _) (.cells #[.int .u8 (97 + (k : Int))] 5)
          have HS2 := Lib.hid (show (wd.alloc (.cells #[.int .u8 (97 + (k : Int))] 5)).cell? ⟨b2, o2 + k * 5, none⟩ = some (.string X) ∧ (wd.alloc (.cells #[.int .u8 (97 + (k : Int))] 5)).cell? ⟨b2, o2 + k * 5 + 1, none⟩ = some (.string U) ∧ (wd.alloc (.cells #[.int .u8 (97 + (k : Int))] 5)).cell? ⟨b2, o2 + k * 5 + 4, none⟩ = some (.bool false) ∧ Below w5.heap.size w5 (wd.alloc (.cells #[.int .u8 (97 + (k : Int))] 5)) from
            ⟨(bal.cell (p := ⟨b2, o2 + k * 5, none⟩) hb7).trans HS.out.1, (bal.cell (p := ⟨b2, o2 + k * 5 + 1, none⟩) hb7).trans HS.out.2.1, (bal.cell (p := ⟨b2, o2 + k * 5 + 4, none⟩) hb7).trans HS.out.2.2.1, HS.out.2.2.2.alloc HS.out.2.2.2.size _⟩)
          have hcv := tgConv_byte wd (97 + (k : Int)) (by omega) (by omega)
          rw [show (97 + (k : Int)).toNat.toUInt8 = tkC k from by unfold tkC; congr 1] at hcv
          have hw1 : IntKind.i64.wrap (97 + (k : Int)) = 97 + (k : Int) := IntWalk.i64_in _ (by omega)
          have hw2 : IntKind.u8.wrap (97 + (k : Int)) = 97 + (k : Int) := by show (97 + (k : Int)) % 256 = _; omega
          clear bal hb7
          refine wpAnyN_take_at 0 95 (v := ?_) rfl rfl (by kernel_rfl) (by kernel_rfl) (by kernel_rfl) (by kernel_rfl) (by kernel_rfl) (fun _ _ _ h => h) (by rfl) ?_ HS.out ?_
          rotate_left
          · intro W hSw; (try dsimp only at hSw); go_simp; (try with_reducible rfl)
          simp only [Act.put, List.setIfInBounds_toArray, List.set_cons_zero, List.set_cons_succ]
          refine wpAnyN_take_at 1 96 (v := ?_) rfl rfl (by kernel_rfl) (by kernel_rfl) (by kernel_rfl) (by kernel_rfl) (by kernel_rfl) (fun _ _ _ h => h) (by rfl) ?_ HS.out ?_
          rotate_left
          · intro W hSw; (try dsimp only at hSw); go_simp; (try with_reducible rfl)
          simp only [Act.put, List.setIfInBounds_toArray, List.set_cons_zero, List.set_cons_succ]
          refine wpAnyN_take_at 2 97 (v := ?_) rfl rfl (by kernel_rfl) (by kernel_rfl) (by kernel_rfl) (by kernel_rfl) (by kernel_rfl) (fun _ _ _ h => h) (by rfl) ?_ HS.out ?_
          rotate_left
          · intro W hSw; (try dsimp only at hSw); go_simp; (try with_reducible rfl)
          simp only [Act.put, List.setIfInBounds_toArray, List.set_cons_zero, List.set_cons_succ]
          refine wpAnyN_take_at 3 98 (v := ?_) rfl rfl (by kernel_rfl) (by kernel_rfl) (by kernel_rfl) (by kernel_rfl) (by kernel_rfl) (fun _ _ _ h => h) (by rfl) ?_ HS.out ?_
          rotate_left
          · intro W hSw; (try dsimp only at hSw); go_simp; (try with_reducible rfl)
          simp only [Act.put, List.setIfInBounds_toArray, List.set_cons_zero, List.set_cons_succ]
          refine wpAnyN_take_at 4 99 (v := ?_) rfl rfl (by kernel_rfl) (by kernel_rfl) (by kernel_rfl) (by kernel_rfl) (by kernel_rfl) (fun _ _ _ h => h) (by rfl) ?_ HS.out ?_
          rotate_left
          · intro W hSw; (try dsimp only at hSw); have q1 := hSw.1; go_simp; (try with_reducible rfl)
          simp only [Act.put, List.setIfInBounds_toArray, List.set_cons_zero, List.set_cons_succ]
          refine wpAnyN_take_at 5 100 (v := ?_) rfl rfl (by kernel_rfl) (by kernel_rfl) (by kernel_rfl) (by kernel_rfl) (by kernel_rfl) (fun _ _ _ h => h) (by rfl) ?_ HS.out ?_
          rotate_left
          · intro W hSw; (try dsimp only at hSw); go_simp; (try with_reducible rfl)
          simp only [Act.put, List.setIfInBounds_toArray, List.set_cons_zero, List.set_cons_succ]
          refine wpAnyN_take_at 6 101 (v := ?_) rfl rfl (by kernel_rfl) (by kernel_rfl) (by kernel_rfl) (by kernel_rfl) (by kernel_rfl) (fun _ _ _ h => h) (by rfl) ?_ HS.out ?_
          rotate_left
          · intro W hSw; (try dsimp only at hSw); go_simp; (try with_reducible rfl)
          simp only [Act.put, List.setIfInBounds_toArray, List.set_cons_zero, List.set_cons_succ]
          refine wpAnyN_take_at 7 102 (v := ?_) rfl rfl (by kernel_rfl) (by kernel_rfl) (by kernel_rfl) (by kernel_rfl) (by kernel_rfl) (fun _ _ _ h => h) (by rfl) ?_ HS.out ?_
          rotate_left
          · intro W hSw; (try dsimp only at hSw); go_simp; (try with_reducible rfl)
          simp only [Act.put, List.setIfInBounds_toArray, List.set_cons_zero, List.set_cons_succ]
          refine wpAnyN_take_at 8 103 (v := ?_) rfl rfl (by kernel_rfl) (by kernel_rfl) (by kernel_rfl) (by kernel_rfl) (by kernel_rfl) (fun _ _ _ h => h) (by rfl) ?_ HS.out ?_
          rotate_left
          · intro W hSw; (try dsimp only at hSw); go_simp; (try with_reducible rfl)
          simp only [Act.put, List.setIfInBounds_toArray, List.set_cons_zero, List.set_cons_succ]
          refine wpAnyN_take_at 9 104 (v := ?_) rfl rfl (by kernel_rfl) (by kernel_rfl) (by kernel_rfl) (by kernel_rfl) (by kernel_rfl) (fun _ _ _ h => h) (by rfl) ?_ HS.out ?_
          rotate_left
          · intro W hSw; (try dsimp only at hSw); go_simp; (try with_reducible rfl)
          simp only [Act.put, List.setIfInBounds_toArray, List.set_cons_zero, List.set_cons_succ]
          refine wpAnyN_take_at 10 105 (v := ?_) rfl rfl (by kernel_rfl) (by kernel_rfl) (by kernel_rfl) (by kernel_rfl) (by kernel_rfl) (fun _ _ _ h => h) (by rfl) ?_ HS.out ?_
          rotate_left
          · intro W hSw; (try dsimp only at hSw); go_simp; (try with_reducible rfl)
          simp only [Act.put, List.setIfInBounds_toArray, List.set_cons_zero, List.set_cons_succ]
          refine wpAnyN_take_at 11 106 (v := ?_) rfl rfl (by kernel_rfl) (by kernel_rfl) (by kernel_rfl) (by kernel_rfl) (by kernel_rfl) (fun _ _ _ h => h) (by rfl) ?_ HS.out ?_
          rotate_left
          · intro W hSw; (try dsimp only at hSw); go_simp; (try with_reducible rfl)
          simp only [Act.put, List.setIfInBounds_toArray, List.set_cons_zero, List.set_cons_succ]
          refine wpAnyN_take_at 12 107 (v := ?_) rfl rfl (by kernel_rfl) (by kernel_rfl) (by kernel_rfl) (by kernel_rfl) (by kernel_rfl) (fun _ _ _ h => h) (by rfl) ?_ HS.out ?_
          rotate_left
          · intro W hSw; (try dsimp only at hSw); have q1 := hSw.2.1; go_simp; (try with_reducible rfl)
          simp only [Act.put, List.setIfInBounds_toArray, List.set_cons_zero, List.set_cons_succ]
          refine wpAnyN_take_at 13 108 (v := ?_) rfl rfl (by kernel_rfl) (by kernel_rfl) (by kernel_rfl) (by kernel_rfl) (by kernel_rfl) (fun _ _ _ h => h) (by rfl) ?_ HS.out ?_
          rotate_left
          · intro W hSw; (try dsimp only at hSw); go_simp; (try with_reducible rfl)
          simp only [Act.put, List.setIfInBounds_toArray, List.set_cons_zero, List.set_cons_succ]
          refine wpAnyN_take_at 14 109 (v := ?_) rfl rfl (by kernel_rfl) (by kernel_rfl) (by kernel_rfl) (by kernel_rfl) (by kernel_rfl) (fun _ _ _ h => h) (by rfl) ?_ HS.out ?_
          rotate_left
          · intro W hSw; (try dsimp only at hSw); go_simp; (try with_reducible rfl)
          simp only [Act.put, List.setIfInBounds_toArray, List.set_cons_zero, List.set_cons_succ]
          refine wpAnyN_take_at 15 110 (v := ?_) rfl rfl (by kernel_rfl) (by kernel_rfl) (by kernel_rfl) (by kernel_rfl) (by kernel_rfl) (fun _ _ _ h => h) (by rfl) ?_ HS.out ?_
          rotate_left
          · intro W hSw; (try dsimp only at hSw); go_simp; (try with_reducible rfl)
          simp only [Act.put, List.setIfInBounds_toArray, List.set_cons_zero, List.set_cons_succ]
          refine wpAnyN_one (i := 16) rfl (by kernel_rfl) (fun K hK => ?_)
          go_simp
          refine hK _ _ (fun _ => HS2.out) ?_
          clear hK
          (try simp only [Act.put, List.setIfInBounds_toArray, List.set_cons_zero, List.set_cons_succ])
          refine wpAnyN_one (i := 17) rfl (by kernel_rfl) (fun K hK => ?_)
          go_simp
          refine hK _ _ (fun _ => HS2.out) ?_
          clear hK hcv
          (try simp only [Act.put, List.setIfInBounds_toArray, List.set_cons_zero, List.set_cons_succ])
          have HS := HS2
          clear HS2
          generalize wd.alloc (.cells #[.int .u8 (97 + (k : Int))] 5) = we at *
          refine wpAnyN_take_at 18 113 (v := ?_) rfl rfl (by kernel_rfl) (by kernel_rfl) (by kernel_rfl) (by kernel_rfl) (by kernel_rfl) (fun _ _ _ h => h) (by rfl) ?_ HS.out ?_
          rotate_left
          · intro W hSw; (try dsimp only at hSw); go_simp; (try with_reducible rfl)
          simp only [Act.put, List.setIfInBounds_toArray, List.set_cons_zero, List.set_cons_succ]
          refine wpAnyN_take_at 19 114 (v := ?_) rfl rfl (by kernel_rfl) (by kernel_rfl) (by kernel_rfl) (by kernel_rfl) (by kernel_rfl) (fun _ _ _ h => h) (by rfl) ?_ HS.out ?_
          rotate_left
          · intro W hSw; (try dsimp only at hSw); go_simp; (try with_reducible rfl)
          simp only [Act.put, List.setIfInBounds_toArray, List.set_cons_zero, List.set_cons_succ]
          refine wpAnyN_take_at 20 115 (v := ?_) rfl rfl (by kernel_rfl) (by kernel_rfl) (by kernel_rfl) (by kernel_rfl) (by kernel_rfl) (fun _ _ _ h => h) (by rfl) ?_ HS.out ?_
          rotate_left
          · intro W hSw; (try dsimp only at hSw); go_simp; (try with_reducible rfl)
          simp only [Act.put, List.setIfInBounds_toArray, List.set_cons_zero, List.set_cons_succ]
          refine wpAnyN_take_at 21 116 (v := ?_) rfl rfl (by kernel_rfl) (by kernel_rfl) (by kernel_rfl) (by kernel_rfl) (by kernel_rfl) (fun _ _ _ h => h) (by rfl) ?_ HS.out ?_
          rotate_left
          · intro W hSw; (try dsimp only at hSw); go_simp; (try with_reducible rfl)
          simp only [Act.put, List.setIfInBounds_toArray, List.set_cons_zero, List.set_cons_succ]
          refine wpAnyN_take_at 22 117 (v := ?_) rfl rfl (by kernel_rfl) (by kernel_rfl) (by kernel_rfl) (by kernel_rfl) (by kernel_rfl) (fun _ _ _ h => h) (by rfl) ?_ HS.out ?_
          rotate_left
          · intro W hSw; (try dsimp only at hSw); go_simp; (try with_reducible rfl)
          simp only [Act.put, List.setIfInBounds_toArray, List.set_cons_zero, List.set_cons_succ]
          refine wpAnyN_take_at 23 118 (v := ?_) rfl rfl (by kernel_rfl) (by kernel_rfl) (by kernel_rfl) (by kernel_rfl) (by kernel_rfl) (fun _ _ _ h => h) (by rfl) ?_ HS.out ?_
          rotate_left
          · intro W hSw; (try dsimp only at hSw); go_simp; (try with_reducible rfl)
          simp only [Act.put, List.setIfInBounds_toArray, List.set_cons_zero, List.set_cons_succ]
          refine wpAnyN_take_at 24 119 (v := ?_) rfl rfl (by kernel_rfl) (by kernel_rfl) (by kernel_rfl) (by kernel_rfl) (by kernel_rfl) (fun _ _ _ h => h) (by rfl) ?_ HS.out ?_
          rotate_left
          · intro W hSw; (try dsimp only at hSw); go_simp; (try with_reducible rfl)
          simp only [Act.put, List.setIfInBounds_toArray, List.set_cons_zero, List.set_cons_succ]
          refine wpAnyN_take_at 25 120 (v := ?_) rfl rfl (by kernel_rfl) (by kernel_rfl) (by kernel_rfl) (by kernel_rfl) (by kernel_rfl) (fun _ _ _ h => h) (by rfl) ?_ HS.out ?_
          rotate_left
          · intro W hSw; (try dsimp only at hSw); go_simp; (try with_reducible rfl)
          simp only [Act.put, List.setIfInBounds_toArray, List.set_cons_zero, List.set_cons_succ]
          refine wpAnyN_take_at 26 121 (v := ?_) rfl rfl (by kernel_rfl) (by kernel_rfl) (by kernel_rfl) (by kernel_rfl) (by kernel_rfl) (fun _ _ _ h => h) (by rfl) ?_ HS.out ?_
          rotate_left
          · intro W hSw; (try dsimp only at hSw); have q1 := hSw.2.2.1; go_simp; (try with_reducible rfl)
          simp only [Act.put, List.setIfInBounds_toArray, List.set_cons_zero, List.set_cons_succ]
          refine wpAnyN_take_at 27 122 (v := ?_) rfl rfl (by kernel_rfl) (by kernel_rfl) (by kernel_rfl) (by kernel_rfl) (by kernel_rfl) (fun _ _ _ h => h) (by rfl) ?_ HS.out ?_
          rotate_left
          · intro W hSw; (try dsimp only at hSw); go_simp; (try with_reducible rfl)
          simp only [Act.put, List.setIfInBounds_toArray, List.set_cons_zero, List.set_cons_succ]
          refine wpAnyN_rest 28 [] rfl (by kernel_rfl) (by kernel_rfl) ?_
          go_wp2
          go_roundw
          case rel => exact ⟨k + 1, by go_num, by omega, HS.out.2.2.2⟩
          case measure => simp [intOf]; omega
        · obtain rfl : k = z0.length := by omega
          go_wp2
          go_ret
          exact ⟨rfl, HB5.out.trans (hb6.mono HB5.out.size)⟩

set_option maxHeartbeats 2000000 in
theorem defineTakes_walk (w : World) (hv : Elv w) (A0 : Option Addr) (c0 : Nat) (z0 : List ByteArray) (r0 : RowOf w A0 c0 (z0.map Value.string)) (w0 : ∀ s ∈ z0, s.size ≤ maxLen) (a1 : ByteArray) (w1 : a1.size ≤ maxLen) :
    Calls Tryd.prog 5 #[.slice A0 z0.length c0, .string a1] w fun e w' => e = .returned (.bool true) ∧ Below w.heap.size w w' := by
  by_cases h : z0.length ≤ 12 ∧ a1.size ≤ 60
  · exact defineTakes_in w hv A0 c0 z0 r0 w0 a1 h.1 h.2
  · unfold maxLen at w1
    have hc1 := r0.1
    have hc2 := r0.2.1
    rw [List.length_map] at hc1
    unfold maxLen at hc2
    have ca := alive11_any w hv
    have hcase : 12 < z0.length ∨ z0.length ≤ 12 ∧ 60 < a1.size := by omega
    clear hv h r0 w0
    rcases hcase with h | ⟨h, h2⟩
    all_goals
      go_enter Tryd.func5, Tryd.ntmps5
      go_wp2_with (go_at_call 7; refine ca.mono ?_; rintro e w1 ⟨rfl, b1⟩)
      go_ret
      exact ⟨rfl, b1⟩

end Go.Proofs.YtioolcnoiaoflaaDoor
