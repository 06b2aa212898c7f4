/- Texts joined: IoQ. -/
import Derived.Test.YteihmgcphbijhaaGreatDoorQAN
import Derived.Test.YteihmgcphbijhaaGreatDoorQAD
import Derived.Test.YteihmgcphbijhaaGreatDoorQAC
import Derived.Test.YteihmgcphbijhaaGreatDoorQAE
import Derived.LoopN
namespace Go.Proofs.YteihmgcphbijhaaGreatDoor
open Go.RowKit
set_option linter.unusedSimpArgs false
set_option linter.unusedVariables false
set_option maxRecDepth 100000
theorem links_index (a : Int) : ∃ j : Nat, j < 6 ∧ (wrap64 (a.tmod 6 + 6)).tmod 6 = (j : Int) := by
  have e1 : -6 < a.tmod 6 ∧ a.tmod 6 < 6 := by
    by_cases h : 0 ≤ a
    · rw [Int.tmod_eq_emod_of_nonneg h]; omega
    · have e := Int.neg_tmod (a := -a) (b := 6)
      rw [Int.neg_neg, Int.tmod_eq_emod_of_nonneg (a := -a) (by omega)] at e
      omega
  have e2 : wrap64 (a.tmod 6 + 6) = a.tmod 6 + 6 := by unfold wrap64; omega
  rw [e2, Int.tmod_eq_emod_of_nonneg (a := a.tmod 6 + 6) (by omega)]
  exact ⟨((a.tmod 6 + 6) % 6).toNat, by omega, by omega⟩
def pieceB (j : Nat) : ByteArray := ⟨(pieceL j).toArray⟩
theorem pieceB_size (j : Nat) : (pieceB j).size ≤ 5 := by
  unfold pieceB pieceL
  split <;> decide
theorem piece_cell (W : World) (j : Nat) (h : j < 6) : (W.alloc (.cells #[.string ⟨#[97]⟩, .string ⟨#[42, 98, 42]⟩, .string ⟨#[32]⟩, .string ⟨#[42, 42, 99, 42, 42]⟩, .string ⟨#[96, 100, 96]⟩, .string ⟨#[101]⟩] 9)).cell? ⟨W.heap.size, j, none⟩ = some (.string (pieceB j)) := by
  rw [cell_of_row _ _ j _ _ (0, 0) (heap_alloc_new W _)]
  match j, h with
  | 0, _ => rfl
  | 1, _ => rfl
  | 2, _ => rfl
  | 3, _ => rfl
  | 4, _ => rfl
  | 5, _ => rfl
theorem NdAt.belowQ {w w' : World} {v : Value} {nd : List Iln} (h : NdAt w v nd) (hb : Below w.heap.size w w') : NdAt w' v nd := h.keep (KI.of (B := w.heap.size) hb (Nat.le_refl _))
def StRel (n : Nat) (w2 : World) (s i : Value) (wr : World) : Prop := ∃ (k : Nat) (u : ByteArray), i = .int .i64 k ∧ s = .string u ∧ k ≤ n ∧ StarsOk u.data.toList ∧ u.size ≤ 5 * k ∧ Below w2.heap.size w2 wr
set_option maxHeartbeats 16000000 in
theorem inlineLinks_walk (w : World) (h7 : TkW w) (A0 : Option Addr) (c0 : Nat) (z0 : List Int) (r0 : RowOf w A0 c0 (z0.map (Value.int .i64))) (w0 : ∀ n ∈ z0, (Lit.int .i64 n).wf = true) (a1 : ByteArray) (w1 : a1.size ≤ maxLen) (a2 : ByteArray) (w2 : a2.size ≤ maxLen) (a3 : Bool) :
    Calls Tryz.prog 3 #[.slice A0 z0.length c0, .string a1, .string a2, .bool a3] w fun e w' => e = .returned (.bool true) ∧ Below w.heap.size w w' := by
  have CA := Lib.hid (alive15_any w h7)
  have H7 := Lib.hid h7
  have R0 := Lib.hid r0
  have hle0 : z0.length ≤ c0 := by have := r0.1; simpa using this
  have hcap0 := r0.2.1
  unfold maxLen at w1 w2 hcap0
  clear h7 w0 r0
  by_cases hz : 12 < z0.length ∨ a1.size = 0 ∨ 30 < a1.size ∨ 30 < a2.size
  · have hcase : 12 < z0.length ∨ (z0.length ≤ 12 ∧ a1.size = 0) ∨ (z0.length ≤ 12 ∧ 0 < a1.size ∧ 30 < a1.size) ∨ (z0.length ≤ 12 ∧ 0 < a1.size ∧ a1.size ≤ 30 ∧ 30 < a2.size) := by omega
    clear hz
    rcases hcase with h1 | ⟨h1, h2⟩ | ⟨h1, h2, h3⟩ | ⟨h1, h2, h3, h4⟩
    · go_enter Tryz.func3, Tryz.ntmps3
      go_wp2_with fail
      refine CA.out.mono ?_
      rintro e w1 ⟨rfl, b1⟩
      go_wp2
      go_ret
      exact ⟨rfl, b1⟩
    · obtain rfl := tlEmpty_of a1 h2
      have t1 : decide (12 < (z0.length : Int)) = false := by simp; omega
      clear h2 w1
      go_enter Tryz.func3, Tryz.ntmps3
      go_wp2_with fail
      refine CA.out.mono ?_
      rintro e w1 ⟨rfl, b1⟩
      go_wp2
      go_ret
      exact ⟨rfl, b1⟩
    · have e1 := toList_ne h2
      have e2 := toList_empty h2
      have t1 : decide (12 < (z0.length : Int)) = false := by simp; omega
      go_enter Tryz.func3, Tryz.ntmps3
      go_wp2_with fail
      refine CA.out.mono ?_
      rintro e w1 ⟨rfl, b1⟩
      go_wp2
      go_ret
      exact ⟨rfl, b1⟩
    · have e1 := toList_ne h2
      have e2 := toList_empty h2
      have t1 : decide (12 < (z0.length : Int)) = false := by simp; omega
      go_enter Tryz.func3, Tryz.ntmps3
      go_wp2_with fail
      refine CA.out.mono ?_
      rintro e w1 ⟨rfl, b1⟩
      go_wp2
      go_ret
      exact ⟨rfl, b1⟩
  · have hz0 : z0.length ≤ 12 := by omega
    have hz1 : 0 < a1.size := by omega
    have hz2 : a1.size ≤ 30 := by omega
    have hz3 : a2.size ≤ 30 := by omega
    have e1 := toList_ne hz1
    have e2 := toList_empty hz1
    have t1 : decide (12 < (z0.length : Int)) = false := by simp; omega
    clear hz
    go_enter Tryz.func3, Tryz.ntmps3
    go_wp2_with fail
    refine CA.out.mono ?_
    rintro e w1 ⟨rfl, b1⟩
    have HB1 := Lib.hid (b1.alloc b1.size (.cells #[.string a1, .string a2] 9))
    clear b1
    go_wp2_with fail
    clear e1 e2
    refine wp_loop_rounds 3 ?_
    rw [rounds_succ]
    go_wp2_with fail
    go_loop [11] (fun v => TlLowRel a1 v) (fun v => a1.size - (intOf v).toNat)
    case atStart => exact ⟨0, rfl, Nat.zero_le _, by simp⟩
    case round =>
      obtain ⟨k, rfl, hk, hall⟩ := hrel
      by_cases hlt : k < a1.size
      · cases hb : lowB a1[k] with
        | true =>
          have HA := Lib.hid (take_mem a1 k hlt lowB hall hb)
          obtain ⟨g1, g2⟩ := low_yes hb
          clear hb hall
          go_wp2
          all_goals first
            | exact ⟨⟨k + 1, by go_num, by omega, HA.out⟩, by simp only [intOf]; omega⟩
            | (go_round
               case rel => exact ⟨k + 1, by go_num, by omega, HA.out⟩
               case measure => simp [intOf]; omega)
        | false =>
          have g := low_no hb
          clear hb hall
          rcases g with g | g
          · go_wp2
            go_ret
            exact ⟨rfl, HB1.out⟩
          · have g1 : decide ((a1[k].toNat : Int) < 97) = false := by simp; omega
            have g2 : (97 : Int) ≤ a1[k].toNat := by omega
            go_wp2
            go_ret
            exact ⟨rfl, HB1.out⟩
      · obtain rfl : k = a1.size := by omega
        rw [List.take_of_length_le (by rw [size_len']; exact Nat.le_refl _)] at hall
        have HA_a1 := Lib.hid hall
        clear hall
        go_wp2_with fail
        rw [rounds_succ]
        go_wp2_with fail
        go_loop [11] (fun v => TlLowRel a2 v) (fun v => a2.size - (intOf v).toNat)
        case atStart => exact ⟨0, rfl, Nat.zero_le _, by simp⟩
        case round =>
          obtain ⟨k, rfl, hk, hall⟩ := hrel
          by_cases hlt : k < a2.size
          · cases hb : lowB a2[k] with
            | true =>
              have HA := Lib.hid (take_mem a2 k hlt lowB hall hb)
              obtain ⟨g1, g2⟩ := low_yes hb
              clear hb hall
              go_wp2
              all_goals first
                | exact ⟨⟨k + 1, by go_num, by omega, HA.out⟩, by simp only [intOf]; omega⟩
                | (go_round
                   case rel => exact ⟨k + 1, by go_num, by omega, HA.out⟩
                   case measure => simp [intOf]; omega)
            | false =>
              have g := low_no hb
              clear hb hall
              rcases g with g | g
              · go_wp2
                go_ret
                exact ⟨rfl, HB1.out⟩
              · have g1 : decide ((a2[k].toNat : Int) < 97) = false := by simp; omega
                have g2 : (97 : Int) ≤ a2[k].toNat := by omega
                go_wp2
                go_ret
                exact ⟨rfl, HB1.out⟩
          · obtain rfl : k = a2.size := by omega
            rw [List.take_of_length_le (by rw [size_len']; exact Nat.le_refl _)] at hall
            have HA_a2 := Lib.hid hall
            clear hall
            go_wp2_with fail
            rw [rounds_succ]
            go_wp2_with fail
            generalize w1.alloc (.cells #[.string a1, .string a2] 9) = w2 at *
            go_loopw [12, 68] (fun s i wr => StRel z0.length w2 s i wr) (fun _ i _ => z0.length - (intOf i).toNat)
            case atStart => exact ⟨0, ByteArray.empty, rfl, rfl, Nat.zero_le _, stars_nil, Nat.zero_le _, Below.refl _ _⟩
            case round =>
              obtain ⟨k, u, rfl, rfl, hk, hst, hus, hbw⟩ := hrel
              by_cases hp : k < z0.length
              · obtain ⟨b, off, hA, hb, hc⟩ := R0.out.at (by intro e; have e2 := List.map_eq_nil_iff.1 e; rw [e2] at hp; simp at hp)
                subst hA
                have hcz := ((HB1.out.then hbw).cell (p := ⟨b, off + k, none⟩) hb).trans (hc k (by rw [List.length_map]; exact hp))
                rw [List.getElem_map] at hcz
                have hbb : b < wr.heap.size := by have := HB1.out.size; have := hbw.size; omega
                have hcz2 := (((Below.refl _ wr).alloc (Nat.le_refl _) (.cells #[.string ⟨#[97]⟩, .string ⟨#[42, 98, 42]⟩, .string ⟨#[32]⟩, .string ⟨#[42, 42, 99, 42, 42]⟩, .string ⟨#[96, 100, 96]⟩, .string ⟨#[101]⟩] 9)).cell (p := ⟨b, off + k, none⟩) hbb).trans hcz
                generalize z0[k] = x at *
                obtain ⟨j, hj, hjx⟩ := links_index x
                have hjn : (j : Int) < 6 := by omega
                have hpc := piece_cell wr j hj
                have hps := pieceB_size j
                have radd := fun W => run_string_add_sum (P := Tryz.prog) W u (pieceB j) (by omega)
                have HN := Lib.hid (show StarsOk (u ++ pieceB j).data.toList from by rw [show (u ++ pieceB j).data.toList = u.data.toList ++ pieceL j from by simp [pieceB]]; exact stars_snoc hst j)
                have HS := Lib.hid (show (u ++ pieceB j).size ≤ 5 * (k + 1) from by rw [ByteArray.size_append]; omega)
                have HBW := Lib.hid (hbw.alloc hbw.size (.cells #[.string ⟨#[97]⟩, .string ⟨#[42, 98, 42]⟩, .string ⟨#[32]⟩, .string ⟨#[42, 42, 99, 42, 42]⟩, .string ⟨#[96, 100, 96]⟩, .string ⟨#[101]⟩] 9))
                generalize u ++ pieceB j = u' at *
                generalize pieceB j = pb at *
                clear hc hst hbw hus hps
                go_wp2
                go_roundw
                case rel => exact ⟨k + 1, u', by go_num, rfl, by omega, HN.out, HS.out, HBW.out⟩
                case measure => simp [intOf]; omega
              · obtain rfl : k = z0.length := by omega
                have HST := Lib.hid hst
                have HBW := Lib.hid (HB1.out.then hbw)
                have hsz := (raw_siz [] u.data.toList).1
                have hul := size_len' u
                have HR0 := Lib.hid (raw_any u wr (H7.out.below HBW.out) (by omega))
                have htx : (textI (rawI [] u.data.toList)).length ≤ 4096 := by unfold sizI at hsz; omega
                have hu60 : u.size ≤ 60 := by omega
                have hne1 : a1.data.toList ≠ [] := by intro e; have := size_len' a1; rw [e] at this; simp at this; omega
                have HTA := Lib.hid (target_ascii a1.data.toList a2.data.toList HA_a1.out HA_a2.out)
                have HTI := Lib.hid (target_inside a1.data.toList a2.data.toList HA_a1.out hne1 HA_a2.out)
                have HPI := Lib.hid (links_plain [] true u.data.toList (targetL a1.data.toList a2.data.toList) a1.data.toList a2.data.toList HST.out (by omega) HTA.out HTI.out)
                have HPL := Lib.hid (links_plain [] false u.data.toList (targetL a1.data.toList a2.data.toList) a1.data.toList a2.data.toList HST.out (by omega) HTA.out HTI.out)
                clear hsz hul hst hbw hus hne1
                have hcases : a2.size = 0 ∨ 0 < a2.size := by omega
                rcases hcases with ht | ht
                · obtain rfl := tlEmpty_of a2 ht
                  have HTG := Lib.hid (show targetL a1.data.toList (⟨#[]⟩ : ByteArray).data.toList = 40 :: (a1.data.toList ++ [41]) from by simp [targetL])
                  clear ht
                  go_wp2_with fail
                  refine HR0.out.mono ?_
                  rintro e w4 ⟨⟨v0, rfl, hv0⟩, b4⟩
                  have HB4 := Lib.hid (HBW.out.then b4)
                  have HV0 := Lib.hid hv0
                  clear hv0 b4 HR0
                  cases a3 with
                  | true =>
                    have q1 := fun W => run_string_add_sum (P := Tryz.prog) W (⟨#[33, 91]⟩ : ByteArray) u (by show 2 + u.size ≤ _; omega)
                    have q2 := fun W => run_string_add_sum (P := Tryz.prog) W ((⟨#[33, 91]⟩ : ByteArray) ++ u) (⟨#[93, 40]⟩ : ByteArray) (by rw [ByteArray.size_append]; show 2 + u.size + 2 ≤ _; omega)
                    have q3 := fun W => run_string_add_sum (P := Tryz.prog) W (((⟨#[33, 91]⟩ : ByteArray) ++ u) ++ (⟨#[93, 40]⟩ : ByteArray)) a1 (by rw [ByteArray.size_append, ByteArray.size_append]; show 2 + u.size + 2 + a1.size ≤ _; omega)
                    have q4 := fun W => run_string_add_sum (P := Tryz.prog) W ((((⟨#[33, 91]⟩ : ByteArray) ++ u) ++ (⟨#[93, 40]⟩ : ByteArray)) ++ a1) (⟨#[41]⟩ : ByteArray) (by rw [ByteArray.size_append, ByteArray.size_append, ByteArray.size_append]; show 2 + u.size + 2 + a1.size + 1 ≤ _; omega)
                    have hT : (((((⟨#[33, 91]⟩ : ByteArray) ++ u) ++ (⟨#[93, 40]⟩ : ByteArray)) ++ a1) ++ (⟨#[41]⟩ : ByteArray)).data.toList = markOf true ++ (u.data.toList ++ 93 :: targetL a1.data.toList (⟨#[]⟩ : ByteArray).data.toList) := by rw [HTG.out]; simp [markOf]
                    have hTs : (((((⟨#[33, 91]⟩ : ByteArray) ++ u) ++ (⟨#[93, 40]⟩ : ByteArray)) ++ a1) ++ (⟨#[41]⟩ : ByteArray)).size ≤ 1000 := by rw [ByteArray.size_append, ByteArray.size_append, ByteArray.size_append, ByteArray.size_append]; show 2 + u.size + 2 + a1.size + 1 ≤ _; omega
                    generalize (((((⟨#[33, 91]⟩ : ByteArray) ++ u) ++ (⟨#[93, 40]⟩ : ByteArray)) ++ a1) ++ (⟨#[41]⟩ : ByteArray)) = T4 at *
                    generalize ((((⟨#[33, 91]⟩ : ByteArray) ++ u) ++ (⟨#[93, 40]⟩ : ByteArray)) ++ a1) = T3 at *
                    generalize (((⟨#[33, 91]⟩ : ByteArray) ++ u) ++ (⟨#[93, 40]⟩ : ByteArray)) = T2 at *
                    generalize ((⟨#[33, 91]⟩ : ByteArray) ++ u) = T1 at *
                    have HP := Lib.hid (show rawI [] T4.data.toList = [⟨6, 0, textI (rawI [] u.data.toList), a1.data.toList, (⟨#[]⟩ : ByteArray).data.toList⟩] from by rw [hT, HPI.out]; rfl)
                    clear hT HPI HPL
                    generalize rawI [] u.data.toList = X at *
                    go_wp2_with fail
                    refine (raw_any T4 w4 (H7.out.below HB4.out) hTs).mono ?_
                    rintro e w5 ⟨⟨v1, rfl, hv1⟩, b5⟩
                    rw [HP.out] at hv1
                    have HV0' := Lib.hid (NdAt.belowQ HV0.out b5)
                    have HB5 := Lib.hid (HB4.out.then b5)
                    obtain ⟨b, off, c, rfl, hb, c0, c1, c2, c3, c4⟩ := hv1.one
                    dsimp only at c0 c1 c2 c3 c4
                    rw [show (⟨a1.data.toList.toArray⟩ : ByteArray) = a1 from Lib.mk_data a1] at c3
                    rw [show (⟨(⟨#[]⟩ : ByteArray).data.toList.toArray⟩ : ByteArray) = (⟨#[]⟩ : ByteArray) from Lib.mk_data (⟨#[]⟩ : ByteArray)] at c4
                    obtain ⟨A0', k0, rfl, hi0, _⟩ := HV0'.out
                    have HC := Lib.hid (And.intro c0 (And.intro c1 (And.intro c2 (And.intro c3 c4))))
                    have HI0 := Lib.hid hi0
                    clear hv1 b5 HV0 HV0' c0 c1 c2 c3 c4 hi0 q1 q2 q3 q4 HP
                    go_wp2_with fail
                    refine wp_region_N (fun W => W.cell? ⟨b, off, none⟩ = some (.int .i64 6) ∧ W.cell? ⟨b, off + 1, none⟩ = some (.int .i64 0) ∧ W.cell? ⟨b, off + 2, none⟩ = some (.string ⟨(textI X).toArray⟩) ∧ W.cell? ⟨b, off + 3, none⟩ = some (.string a1) ∧ W.cell? ⟨b, off + 4, none⟩ = some (.string (⟨#[]⟩ : ByteArray))) (fun n => decide (n < 12)) (by kernel_rfl) ?_
                    have HS := Lib.hid (show w5.drew.cell? ⟨b, off, none⟩ = some (.int .i64 6) ∧ w5.drew.cell? ⟨b, off + 1, none⟩ = some (.int .i64 0) ∧ w5.drew.cell? ⟨b, off + 2, none⟩ = some (.string ⟨(textI X).toArray⟩) ∧ w5.drew.cell? ⟨b, off + 3, none⟩ = some (.string a1) ∧ w5.drew.cell? ⟨b, off + 4, none⟩ = some (.string (⟨#[]⟩ : ByteArray)) from HC.out)
                    have HI0d := Lib.hid (show InlsAt w5.drew A0' k0 X from EltsAt.below HI0.out ((Below.refl _ _).drew))
                    have HBd := Lib.hid (HB5.out.drew)
                    have hbd : b < w5.drew.heap.size := hb
                    clear HC HI0 HB5 hb
                    generalize w5.drew = wd at *
                    refine wpAnyN_take_at 0 100 (v := ?_) rfl rfl (by kernel_rfl) (by kernel_rfl) (by kernel_rfl) (by kernel_rfl) (by kernel_rfl) (fun _ _ _ h => h) (by rfl) ?_ HS.out ?_
                    rotate_left
                    · intro W hSw; (try dsimp only at hSw); obtain ⟨p0, p1, p2, p3, p4⟩ := hSw; go_simp; (try with_reducible rfl)
                    simp only [Act.put, List.setIfInBounds_toArray, List.set_cons_zero, List.set_cons_succ]
                    refine wpAnyN_take_at 1 101 (v := ?_) rfl rfl (by kernel_rfl) (by kernel_rfl) (by kernel_rfl) (by kernel_rfl) (by kernel_rfl) (fun _ _ _ h => h) (by rfl) ?_ HS.out ?_
                    rotate_left
                    · intro W hSw; (try dsimp only at hSw); obtain ⟨p0, p1, p2, p3, p4⟩ := hSw; go_simp; (try with_reducible rfl)
                    simp only [Act.put, List.setIfInBounds_toArray, List.set_cons_zero, List.set_cons_succ]
                    refine wpAnyN_take_at 2 102 (v := ?_) rfl rfl (by kernel_rfl) (by kernel_rfl) (by kernel_rfl) (by kernel_rfl) (by kernel_rfl) (fun _ _ _ h => h) (by rfl) ?_ HS.out ?_
                    rotate_left
                    · intro W hSw; (try dsimp only at hSw); obtain ⟨p0, p1, p2, p3, p4⟩ := hSw; go_simp; (try with_reducible rfl)
                    simp only [Act.put, List.setIfInBounds_toArray, List.set_cons_zero, List.set_cons_succ]
                    refine wpAnyN_take_at 3 103 (v := ?_) rfl rfl (by kernel_rfl) (by kernel_rfl) (by kernel_rfl) (by kernel_rfl) (by kernel_rfl) (fun _ _ _ h => h) (by rfl) ?_ HS.out ?_
                    rotate_left
                    · intro W hSw; (try dsimp only at hSw); obtain ⟨p0, p1, p2, p3, p4⟩ := hSw; go_simp; (try with_reducible rfl)
                    simp only [Act.put, List.setIfInBounds_toArray, List.set_cons_zero, List.set_cons_succ]
                    refine wpAnyN_take_at 4 104 (v := ?_) rfl rfl (by kernel_rfl) (by kernel_rfl) (by kernel_rfl) (by kernel_rfl) (by kernel_rfl) (fun _ _ _ h => h) (by rfl) ?_ HS.out ?_
                    rotate_left
                    · intro W hSw; (try dsimp only at hSw); obtain ⟨p0, p1, p2, p3, p4⟩ := hSw; go_simp; (try with_reducible rfl)
                    simp only [Act.put, List.setIfInBounds_toArray, List.set_cons_zero, List.set_cons_succ]
                    refine wpAnyN_take_at 5 105 (v := ?_) rfl rfl (by kernel_rfl) (by kernel_rfl) (by kernel_rfl) (by kernel_rfl) (by kernel_rfl) (fun _ _ _ h => h) (by rfl) ?_ HS.out ?_
                    rotate_left
                    · intro W hSw; (try dsimp only at hSw); obtain ⟨p0, p1, p2, p3, p4⟩ := hSw; go_simp; (try with_reducible rfl)
                    simp only [Act.put, List.setIfInBounds_toArray, List.set_cons_zero, List.set_cons_succ]
                    refine wpAnyN_take_at 6 106 (v := ?_) rfl rfl (by kernel_rfl) (by kernel_rfl) (by kernel_rfl) (by kernel_rfl) (by kernel_rfl) (fun _ _ _ h => h) (by rfl) ?_ HS.out ?_
                    rotate_left
                    · intro W hSw; (try dsimp only at hSw); obtain ⟨p0, p1, p2, p3, p4⟩ := hSw; go_simp; (try with_reducible rfl)
                    simp only [Act.put, List.setIfInBounds_toArray, List.set_cons_zero, List.set_cons_succ]
                    refine wpAnyN_take_at 7 107 (v := ?_) rfl rfl (by kernel_rfl) (by kernel_rfl) (by kernel_rfl) (by kernel_rfl) (by kernel_rfl) (fun _ _ _ h => h) (by rfl) ?_ HS.out ?_
                    rotate_left
                    · intro W hSw; (try dsimp only at hSw); obtain ⟨p0, p1, p2, p3, p4⟩ := hSw; go_simp; (try with_reducible rfl)
                    simp only [Act.put, List.setIfInBounds_toArray, List.set_cons_zero, List.set_cons_succ]
                    refine wpAnyN_take_at 8 108 (v := ?_) rfl rfl (by kernel_rfl) (by kernel_rfl) (by kernel_rfl) (by kernel_rfl) (by kernel_rfl) (fun _ _ _ h => h) (by rfl) ?_ HS.out ?_
                    rotate_left
                    · intro W hSw; (try dsimp only at hSw); obtain ⟨p0, p1, p2, p3, p4⟩ := hSw; go_simp; (try with_reducible rfl)
                    simp only [Act.put, List.setIfInBounds_toArray, List.set_cons_zero, List.set_cons_succ]
                    refine wpAnyN_take_at 9 109 (v := ?_) rfl rfl (by kernel_rfl) (by kernel_rfl) (by kernel_rfl) (by kernel_rfl) (by kernel_rfl) (fun _ _ _ h => h) (by rfl) ?_ HS.out ?_
                    rotate_left
                    · intro W hSw; (try dsimp only at hSw); obtain ⟨p0, p1, p2, p3, p4⟩ := hSw; go_simp; (try with_reducible rfl)
                    simp only [Act.put, List.setIfInBounds_toArray, List.set_cons_zero, List.set_cons_succ]
                    refine wpAnyN_one (i := 10) rfl (by kernel_rfl) (fun K hK => ?_)
                    go_simp
                    go_at_call 7
                    refine (text_inl A0' k0 X wd HI0d.out (by omega)).mono ?_
                    rintro e w6 ⟨rfl, b6⟩
                    obtain ⟨c0, c1, c2, c3, c4⟩ := HS.out
                    have HS6 := Lib.hid (And.intro ((b6.cell (p := ⟨b, off, none⟩) hbd).trans c0) (And.intro ((b6.cell (p := ⟨b, off + 1, none⟩) hbd).trans c1) (And.intro ((b6.cell (p := ⟨b, off + 2, none⟩) hbd).trans c2) (And.intro ((b6.cell (p := ⟨b, off + 3, none⟩) hbd).trans c3) ((b6.cell (p := ⟨b, off + 4, none⟩) hbd).trans c4)))))
                    have HB6 := Lib.hid (HBd.out.then b6)
                    refine hK _ _ (fun _ => HS6.out) ?_
                    clear hK HS b6 c0 c1 c2 c3 c4 HI0d HBd
                    refine wpAnyN_take_at 11 111 (v := ?_) rfl rfl (by kernel_rfl) (by kernel_rfl) (by kernel_rfl) (by kernel_rfl) (by kernel_rfl) (fun _ _ _ h => h) (by rfl) ?_ HS6.out ?_
                    rotate_left
                    · intro W hSw; (try dsimp only at hSw); obtain ⟨p0, p1, p2, p3, p4⟩ := hSw; go_simp; (try with_reducible rfl)
                    simp only [Act.put, List.setIfInBounds_toArray, List.set_cons_zero, List.set_cons_succ]
                    obtain ⟨c0, c1, c2, c3, c4⟩ := HS6.out
                    clear HS6
                    refine wpAnyN_rest 12 [_, _, _] rfl (by kernel_rfl) (by kernel_rfl) ?_
                    go_wp2
                    go_ret
                    exact ⟨ret_bool (by simp), HB6.out⟩

                  | false =>
                    have q1 := fun W => run_string_add_sum (P := Tryz.prog) W (⟨#[91]⟩ : ByteArray) u (by show 1 + u.size ≤ _; omega)
                    have q2 := fun W => run_string_add_sum (P := Tryz.prog) W ((⟨#[91]⟩ : ByteArray) ++ u) (⟨#[93, 40]⟩ : ByteArray) (by rw [ByteArray.size_append]; show 1 + u.size + 2 ≤ _; omega)
                    have q3 := fun W => run_string_add_sum (P := Tryz.prog) W (((⟨#[91]⟩ : ByteArray) ++ u) ++ (⟨#[93, 40]⟩ : ByteArray)) a1 (by rw [ByteArray.size_append, ByteArray.size_append]; show 1 + u.size + 2 + a1.size ≤ _; omega)
                    have q4 := fun W => run_string_add_sum (P := Tryz.prog) W ((((⟨#[91]⟩ : ByteArray) ++ u) ++ (⟨#[93, 40]⟩ : ByteArray)) ++ a1) (⟨#[41]⟩ : ByteArray) (by rw [ByteArray.size_append, ByteArray.size_append, ByteArray.size_append]; show 1 + u.size + 2 + a1.size + 1 ≤ _; omega)
                    have hT : (((((⟨#[91]⟩ : ByteArray) ++ u) ++ (⟨#[93, 40]⟩ : ByteArray)) ++ a1) ++ (⟨#[41]⟩ : ByteArray)).data.toList = markOf false ++ (u.data.toList ++ 93 :: targetL a1.data.toList (⟨#[]⟩ : ByteArray).data.toList) := by rw [HTG.out]; simp [markOf]
                    have hTs : (((((⟨#[91]⟩ : ByteArray) ++ u) ++ (⟨#[93, 40]⟩ : ByteArray)) ++ a1) ++ (⟨#[41]⟩ : ByteArray)).size ≤ 1000 := by rw [ByteArray.size_append, ByteArray.size_append, ByteArray.size_append, ByteArray.size_append]; show 1 + u.size + 2 + a1.size + 1 ≤ _; omega
                    generalize (((((⟨#[91]⟩ : ByteArray) ++ u) ++ (⟨#[93, 40]⟩ : ByteArray)) ++ a1) ++ (⟨#[41]⟩ : ByteArray)) = T4 at *
                    generalize ((((⟨#[91]⟩ : ByteArray) ++ u) ++ (⟨#[93, 40]⟩ : ByteArray)) ++ a1) = T3 at *
                    generalize (((⟨#[91]⟩ : ByteArray) ++ u) ++ (⟨#[93, 40]⟩ : ByteArray)) = T2 at *
                    generalize ((⟨#[91]⟩ : ByteArray) ++ u) = T1 at *
                    have HP := Lib.hid (show rawI [] T4.data.toList = ⟨5, 0, [], a1.data.toList, (⟨#[]⟩ : ByteArray).data.toList⟩ :: deepI (rawI [] u.data.toList) from by rw [hT, HPL.out]; rfl)
                    clear hT HPI HPL
                    generalize rawI [] u.data.toList = X at *
                    go_wp2_with fail
                    refine (raw_any T4 w4 (H7.out.below HB4.out) hTs).mono ?_
                    rintro e w5 ⟨⟨v1, rfl, hv1⟩, b5⟩
                    rw [HP.out] at hv1
                    have hmx := hv1.len_le
                    unfold maxLen at hmx
                    have hte := textI_deep X
                    have HV0' := Lib.hid (NdAt.belowQ HV0.out b5)
                    have HB5 := Lib.hid (HB4.out.then b5)
                    obtain ⟨Av, cv, rfl, hi, _⟩ := hv1
                    obtain ⟨b, off, hA, hb, c0, c1, c2, c3, c4⟩ := InlsAt.cells5 hi (k := 0) (by simp)
                    subst hA
                    simp only [List.getElem_cons_zero, Nat.zero_mul, Nat.add_zero] at c0 c1 c2 c3 c4
                    rw [show (⟨a1.data.toList.toArray⟩ : ByteArray) = a1 from Lib.mk_data a1] at c3
                    rw [show (⟨(⟨#[]⟩ : ByteArray).data.toList.toArray⟩ : ByteArray) = (⟨#[]⟩ : ByteArray) from Lib.mk_data (⟨#[]⟩ : ByteArray)] at c4
                    have hdr : InlsAt w5 (dropI (some ⟨b, off, none⟩) cv 1) (cv - 1) (deepI X) := InlsAt.dropL hi (k := 1) (by simp)
                    obtain ⟨A0', k0, rfl, hi0, _⟩ := HV0'.out
                    have hle := hi.le
                    have hcp := hi.cap
                    unfold maxLen at hcp
                    rw [List.length_cons] at hle hmx ⊢
                    have ct1 := fun (W : World) (hw : Below w5.heap.size w5 W) => text_inl (dropI (some ⟨b, off, none⟩) cv 1) (cv - 1) (deepI X) W (EltsAt.below hdr hw) (by rw [hte]; omega)
                    have ct2 := fun (W : World) (hw : Below w5.heap.size w5 W) => text_inl A0' k0 X W (EltsAt.below hi0 hw) (by omega)
                    rw [hte] at ct1
                    generalize textI X = tx at *
                    have hl0 : ∀ W, (Instr.slice 25 (.slice (some ⟨b, off, none⟩) ((deepI X).length + 1) cv) (some (.int .i64 1)) none none).run Tryz.prog W = .ok (.slice (dropI (some ⟨b, off, none⟩) cv 1) (deepI X).length (cv - 1)) W := fun W => islice_low (some ⟨b, off, none⟩) ((deepI X).length + 1) cv 1 (by omega) W
                    generalize dropI (some ⟨b, off, none⟩) cv 1 = A1 at *
                    generalize (deepI X).length = m at *
                    have hM1 : 1 ≤ m + 1 := by omega
                    generalize m + 1 = M at *
                    have hM2 : decide ((M : Int) < 1) = false := by simp; omega
                    have CT1 := Lib.hid ct1
                    have CT2 := Lib.hid ct2
                    clear b5 HV0 HV0' hi hi0 hdr q1 q2 q3 q4 HP ct1 ct2 hte
                    go_wp2_with fail
                    refine (CT1.out _ (Below.refl _ _)).mono ?_
                    rintro e w6 ⟨rfl, b6⟩
                    have HB6 := Lib.hid b6
                    clear b6
                    go_wp2_with fail
                    refine (CT2.out _ HB6.out).mono ?_
                    rintro e w7 ⟨rfl, b7⟩
                    have HB7 := Lib.hid (HB5.out.then (HB6.out.then b7))
                    clear b7
                    go_wp2
                    go_ret
                    exact ⟨ret_bool (by simp), HB7.out⟩

                · have e1 := toList_ne ht
                  have e2 := toList_empty ht
                  have hn2 : a2.data.toList ≠ [] := by intro e; have := size_len' a2; rw [e] at this; simp at this; omega
                  have r1 := fun W => run_string_add_sum (P := Tryz.prog) W (⟨#[32, 39]⟩ : ByteArray) a2 (by show 2 + a2.size ≤ _; omega)
                  have r2 := fun W => run_string_add_sum (P := Tryz.prog) W ((⟨#[32, 39]⟩ : ByteArray) ++ a2) (⟨#[39]⟩ : ByteArray) (by rw [ByteArray.size_append]; show 2 + a2.size + 1 ≤ _; omega)
                  have r3 := fun W => run_string_add_sum (P := Tryz.prog) W a1 (((⟨#[32, 39]⟩ : ByteArray) ++ a2) ++ (⟨#[39]⟩ : ByteArray)) (by rw [ByteArray.size_append, ByteArray.size_append]; show a1.size + (2 + a2.size + 1) ≤ _; omega)
                  have HTG := Lib.hid (show targetL a1.data.toList a2.data.toList = 40 :: ((a1 ++ (((⟨#[32, 39]⟩ : ByteArray) ++ a2) ++ (⟨#[39]⟩ : ByteArray))).data.toList ++ [41]) from by unfold targetL; rw [if_neg hn2]; simp)
                  have hBs : (a1 ++ (((⟨#[32, 39]⟩ : ByteArray) ++ a2) ++ (⟨#[39]⟩ : ByteArray))).size ≤ 70 := by rw [ByteArray.size_append, ByteArray.size_append, ByteArray.size_append]; show a1.size + (2 + a2.size + 1) ≤ _; omega
                  generalize (a1 ++ (((⟨#[32, 39]⟩ : ByteArray) ++ a2) ++ (⟨#[39]⟩ : ByteArray))) = B at *
                  generalize ((⟨#[32, 39]⟩ : ByteArray) ++ a2) ++ (⟨#[39]⟩ : ByteArray) = B2 at *
                  generalize (⟨#[32, 39]⟩ : ByteArray) ++ a2 = B1 at *
                  clear hn2
                  go_wp2_with fail
                  clear r1 r2 r3 e1 e2 ht
                  refine HR0.out.mono ?_
                  rintro e w4 ⟨⟨v0, rfl, hv0⟩, b4⟩
                  have HB4 := Lib.hid (HBW.out.then b4)
                  have HV0 := Lib.hid hv0
                  clear hv0 b4 HR0
                  cases a3 with
                  | true =>
                    have q1 := fun W => run_string_add_sum (P := Tryz.prog) W (⟨#[33, 91]⟩ : ByteArray) u (by show 2 + u.size ≤ _; omega)
                    have q2 := fun W => run_string_add_sum (P := Tryz.prog) W ((⟨#[33, 91]⟩ : ByteArray) ++ u) (⟨#[93, 40]⟩ : ByteArray) (by rw [ByteArray.size_append]; show 2 + u.size + 2 ≤ _; omega)
                    have q3 := fun W => run_string_add_sum (P := Tryz.prog) W (((⟨#[33, 91]⟩ : ByteArray) ++ u) ++ (⟨#[93, 40]⟩ : ByteArray)) B (by rw [ByteArray.size_append, ByteArray.size_append]; show 2 + u.size + 2 + B.size ≤ _; omega)
                    have q4 := fun W => run_string_add_sum (P := Tryz.prog) W ((((⟨#[33, 91]⟩ : ByteArray) ++ u) ++ (⟨#[93, 40]⟩ : ByteArray)) ++ B) (⟨#[41]⟩ : ByteArray) (by rw [ByteArray.size_append, ByteArray.size_append, ByteArray.size_append]; show 2 + u.size + 2 + B.size + 1 ≤ _; omega)
                    have hT : (((((⟨#[33, 91]⟩ : ByteArray) ++ u) ++ (⟨#[93, 40]⟩ : ByteArray)) ++ B) ++ (⟨#[41]⟩ : ByteArray)).data.toList = markOf true ++ (u.data.toList ++ 93 :: targetL a1.data.toList a2.data.toList) := by rw [HTG.out]; simp [markOf]
                    have hTs : (((((⟨#[33, 91]⟩ : ByteArray) ++ u) ++ (⟨#[93, 40]⟩ : ByteArray)) ++ B) ++ (⟨#[41]⟩ : ByteArray)).size ≤ 1000 := by rw [ByteArray.size_append, ByteArray.size_append, ByteArray.size_append, ByteArray.size_append]; show 2 + u.size + 2 + B.size + 1 ≤ _; omega
                    generalize (((((⟨#[33, 91]⟩ : ByteArray) ++ u) ++ (⟨#[93, 40]⟩ : ByteArray)) ++ B) ++ (⟨#[41]⟩ : ByteArray)) = T4 at *
                    generalize ((((⟨#[33, 91]⟩ : ByteArray) ++ u) ++ (⟨#[93, 40]⟩ : ByteArray)) ++ B) = T3 at *
                    generalize (((⟨#[33, 91]⟩ : ByteArray) ++ u) ++ (⟨#[93, 40]⟩ : ByteArray)) = T2 at *
                    generalize ((⟨#[33, 91]⟩ : ByteArray) ++ u) = T1 at *
                    have HP := Lib.hid (show rawI [] T4.data.toList = [⟨6, 0, textI (rawI [] u.data.toList), a1.data.toList, a2.data.toList⟩] from by rw [hT, HPI.out]; rfl)
                    clear hT HPI HPL
                    generalize rawI [] u.data.toList = X at *
                    go_wp2_with fail
                    refine (raw_any T4 w4 (H7.out.below HB4.out) hTs).mono ?_
                    rintro e w5 ⟨⟨v1, rfl, hv1⟩, b5⟩
                    rw [HP.out] at hv1
                    have HV0' := Lib.hid (NdAt.belowQ HV0.out b5)
                    have HB5 := Lib.hid (HB4.out.then b5)
                    obtain ⟨b, off, c, rfl, hb, c0, c1, c2, c3, c4⟩ := hv1.one
                    dsimp only at c0 c1 c2 c3 c4
                    rw [show (⟨a1.data.toList.toArray⟩ : ByteArray) = a1 from Lib.mk_data a1] at c3
                    rw [show (⟨a2.data.toList.toArray⟩ : ByteArray) = a2 from Lib.mk_data a2] at c4
                    obtain ⟨A0', k0, rfl, hi0, _⟩ := HV0'.out
                    have HC := Lib.hid (And.intro c0 (And.intro c1 (And.intro c2 (And.intro c3 c4))))
                    have HI0 := Lib.hid hi0
                    clear hv1 b5 HV0 HV0' c0 c1 c2 c3 c4 hi0 q1 q2 q3 q4 HP
                    go_wp2_with fail
                    refine wp_region_N (fun W => W.cell? ⟨b, off, none⟩ = some (.int .i64 6) ∧ W.cell? ⟨b, off + 1, none⟩ = some (.int .i64 0) ∧ W.cell? ⟨b, off + 2, none⟩ = some (.string ⟨(textI X).toArray⟩) ∧ W.cell? ⟨b, off + 3, none⟩ = some (.string a1) ∧ W.cell? ⟨b, off + 4, none⟩ = some (.string a2)) (fun n => decide (n < 12)) (by kernel_rfl) ?_
                    have HS := Lib.hid (show w5.drew.cell? ⟨b, off, none⟩ = some (.int .i64 6) ∧ w5.drew.cell? ⟨b, off + 1, none⟩ = some (.int .i64 0) ∧ w5.drew.cell? ⟨b, off + 2, none⟩ = some (.string ⟨(textI X).toArray⟩) ∧ w5.drew.cell? ⟨b, off + 3, none⟩ = some (.string a1) ∧ w5.drew.cell? ⟨b, off + 4, none⟩ = some (.string a2) from HC.out)
                    have HI0d := Lib.hid (show InlsAt w5.drew A0' k0 X from EltsAt.below HI0.out ((Below.refl _ _).drew))
                    have HBd := Lib.hid (HB5.out.drew)
                    have hbd : b < w5.drew.heap.size := hb
                    clear HC HI0 HB5 hb
                    generalize w5.drew = wd at *
                    refine wpAnyN_take_at 0 100 (v := ?_) rfl rfl (by kernel_rfl) (by kernel_rfl) (by kernel_rfl) (by kernel_rfl) (by kernel_rfl) (fun _ _ _ h => h) (by rfl) ?_ HS.out ?_
                    rotate_left
                    · intro W hSw; (try dsimp only at hSw); obtain ⟨p0, p1, p2, p3, p4⟩ := hSw; go_simp; (try with_reducible rfl)
                    simp only [Act.put, List.setIfInBounds_toArray, List.set_cons_zero, List.set_cons_succ]
                    refine wpAnyN_take_at 1 101 (v := ?_) rfl rfl (by kernel_rfl) (by kernel_rfl) (by kernel_rfl) (by kernel_rfl) (by kernel_rfl) (fun _ _ _ h => h) (by rfl) ?_ HS.out ?_
                    rotate_left
                    · intro W hSw; (try dsimp only at hSw); obtain ⟨p0, p1, p2, p3, p4⟩ := hSw; go_simp; (try with_reducible rfl)
                    simp only [Act.put, List.setIfInBounds_toArray, List.set_cons_zero, List.set_cons_succ]
                    refine wpAnyN_take_at 2 102 (v := ?_) rfl rfl (by kernel_rfl) (by kernel_rfl) (by kernel_rfl) (by kernel_rfl) (by kernel_rfl) (fun _ _ _ h => h) (by rfl) ?_ HS.out ?_
                    rotate_left
                    · intro W hSw; (try dsimp only at hSw); obtain ⟨p0, p1, p2, p3, p4⟩ := hSw; go_simp; (try with_reducible rfl)
                    simp only [Act.put, List.setIfInBounds_toArray, List.set_cons_zero, List.set_cons_succ]
                    refine wpAnyN_take_at 3 103 (v := ?_) rfl rfl (by kernel_rfl) (by kernel_rfl) (by kernel_rfl) (by kernel_rfl) (by kernel_rfl) (fun _ _ _ h => h) (by rfl) ?_ HS.out ?_
                    rotate_left
                    · intro W hSw; (try dsimp only at hSw); obtain ⟨p0, p1, p2, p3, p4⟩ := hSw; go_simp; (try with_reducible rfl)
                    simp only [Act.put, List.setIfInBounds_toArray, List.set_cons_zero, List.set_cons_succ]
                    refine wpAnyN_take_at 4 104 (v := ?_) rfl rfl (by kernel_rfl) (by kernel_rfl) (by kernel_rfl) (by kernel_rfl) (by kernel_rfl) (fun _ _ _ h => h) (by rfl) ?_ HS.out ?_
                    rotate_left
                    · intro W hSw; (try dsimp only at hSw); obtain ⟨p0, p1, p2, p3, p4⟩ := hSw; go_simp; (try with_reducible rfl)
                    simp only [Act.put, List.setIfInBounds_toArray, List.set_cons_zero, List.set_cons_succ]
                    refine wpAnyN_take_at 5 105 (v := ?_) rfl rfl (by kernel_rfl) (by kernel_rfl) (by kernel_rfl) (by kernel_rfl) (by kernel_rfl) (fun _ _ _ h => h) (by rfl) ?_ HS.out ?_
                    rotate_left
                    · intro W hSw; (try dsimp only at hSw); obtain ⟨p0, p1, p2, p3, p4⟩ := hSw; go_simp; (try with_reducible rfl)
                    simp only [Act.put, List.setIfInBounds_toArray, List.set_cons_zero, List.set_cons_succ]
                    refine wpAnyN_take_at 6 106 (v := ?_) rfl rfl (by kernel_rfl) (by kernel_rfl) (by kernel_rfl) (by kernel_rfl) (by kernel_rfl) (fun _ _ _ h => h) (by rfl) ?_ HS.out ?_
                    rotate_left
                    · intro W hSw; (try dsimp only at hSw); obtain ⟨p0, p1, p2, p3, p4⟩ := hSw; go_simp; (try with_reducible rfl)
                    simp only [Act.put, List.setIfInBounds_toArray, List.set_cons_zero, List.set_cons_succ]
                    refine wpAnyN_take_at 7 107 (v := ?_) rfl rfl (by kernel_rfl) (by kernel_rfl) (by kernel_rfl) (by kernel_rfl) (by kernel_rfl) (fun _ _ _ h => h) (by rfl) ?_ HS.out ?_
                    rotate_left
                    · intro W hSw; (try dsimp only at hSw); obtain ⟨p0, p1, p2, p3, p4⟩ := hSw; go_simp; (try with_reducible rfl)
                    simp only [Act.put, List.setIfInBounds_toArray, List.set_cons_zero, List.set_cons_succ]
                    refine wpAnyN_take_at 8 108 (v := ?_) rfl rfl (by kernel_rfl) (by kernel_rfl) (by kernel_rfl) (by kernel_rfl) (by kernel_rfl) (fun _ _ _ h => h) (by rfl) ?_ HS.out ?_
                    rotate_left
                    · intro W hSw; (try dsimp only at hSw); obtain ⟨p0, p1, p2, p3, p4⟩ := hSw; go_simp; (try with_reducible rfl)
                    simp only [Act.put, List.setIfInBounds_toArray, List.set_cons_zero, List.set_cons_succ]
                    refine wpAnyN_take_at 9 109 (v := ?_) rfl rfl (by kernel_rfl) (by kernel_rfl) (by kernel_rfl) (by kernel_rfl) (by kernel_rfl) (fun _ _ _ h => h) (by rfl) ?_ HS.out ?_
                    rotate_left
                    · intro W hSw; (try dsimp only at hSw); obtain ⟨p0, p1, p2, p3, p4⟩ := hSw; go_simp; (try with_reducible rfl)
                    simp only [Act.put, List.setIfInBounds_toArray, List.set_cons_zero, List.set_cons_succ]
                    refine wpAnyN_one (i := 10) rfl (by kernel_rfl) (fun K hK => ?_)
                    go_simp
                    go_at_call 7
                    refine (text_inl A0' k0 X wd HI0d.out (by omega)).mono ?_
                    rintro e w6 ⟨rfl, b6⟩
                    obtain ⟨c0, c1, c2, c3, c4⟩ := HS.out
                    have HS6 := Lib.hid (And.intro ((b6.cell (p := ⟨b, off, none⟩) hbd).trans c0) (And.intro ((b6.cell (p := ⟨b, off + 1, none⟩) hbd).trans c1) (And.intro ((b6.cell (p := ⟨b, off + 2, none⟩) hbd).trans c2) (And.intro ((b6.cell (p := ⟨b, off + 3, none⟩) hbd).trans c3) ((b6.cell (p := ⟨b, off + 4, none⟩) hbd).trans c4)))))
                    have HB6 := Lib.hid (HBd.out.then b6)
                    refine hK _ _ (fun _ => HS6.out) ?_
                    clear hK HS b6 c0 c1 c2 c3 c4 HI0d HBd
                    refine wpAnyN_take_at 11 111 (v := ?_) rfl rfl (by kernel_rfl) (by kernel_rfl) (by kernel_rfl) (by kernel_rfl) (by kernel_rfl) (fun _ _ _ h => h) (by rfl) ?_ HS6.out ?_
                    rotate_left
                    · intro W hSw; (try dsimp only at hSw); obtain ⟨p0, p1, p2, p3, p4⟩ := hSw; go_simp; (try with_reducible rfl)
                    simp only [Act.put, List.setIfInBounds_toArray, List.set_cons_zero, List.set_cons_succ]
                    obtain ⟨c0, c1, c2, c3, c4⟩ := HS6.out
                    clear HS6
                    refine wpAnyN_rest 12 [_, _, _] rfl (by kernel_rfl) (by kernel_rfl) ?_
                    go_wp2
                    go_ret
                    exact ⟨ret_bool (by simp), HB6.out⟩

                  | false =>
                    have q1 := fun W => run_string_add_sum (P := Tryz.prog) W (⟨#[91]⟩ : ByteArray) u (by show 1 + u.size ≤ _; omega)
                    have q2 := fun W => run_string_add_sum (P := Tryz.prog) W ((⟨#[91]⟩ : ByteArray) ++ u) (⟨#[93, 40]⟩ : ByteArray) (by rw [ByteArray.size_append]; show 1 + u.size + 2 ≤ _; omega)
                    have q3 := fun W => run_string_add_sum (P := Tryz.prog) W (((⟨#[91]⟩ : ByteArray) ++ u) ++ (⟨#[93, 40]⟩ : ByteArray)) B (by rw [ByteArray.size_append, ByteArray.size_append]; show 1 + u.size + 2 + B.size ≤ _; omega)
                    have q4 := fun W => run_string_add_sum (P := Tryz.prog) W ((((⟨#[91]⟩ : ByteArray) ++ u) ++ (⟨#[93, 40]⟩ : ByteArray)) ++ B) (⟨#[41]⟩ : ByteArray) (by rw [ByteArray.size_append, ByteArray.size_append, ByteArray.size_append]; show 1 + u.size + 2 + B.size + 1 ≤ _; omega)
                    have hT : (((((⟨#[91]⟩ : ByteArray) ++ u) ++ (⟨#[93, 40]⟩ : ByteArray)) ++ B) ++ (⟨#[41]⟩ : ByteArray)).data.toList = markOf false ++ (u.data.toList ++ 93 :: targetL a1.data.toList a2.data.toList) := by rw [HTG.out]; simp [markOf]
                    have hTs : (((((⟨#[91]⟩ : ByteArray) ++ u) ++ (⟨#[93, 40]⟩ : ByteArray)) ++ B) ++ (⟨#[41]⟩ : ByteArray)).size ≤ 1000 := by rw [ByteArray.size_append, ByteArray.size_append, ByteArray.size_append, ByteArray.size_append]; show 1 + u.size + 2 + B.size + 1 ≤ _; omega
                    generalize (((((⟨#[91]⟩ : ByteArray) ++ u) ++ (⟨#[93, 40]⟩ : ByteArray)) ++ B) ++ (⟨#[41]⟩ : ByteArray)) = T4 at *
                    generalize ((((⟨#[91]⟩ : ByteArray) ++ u) ++ (⟨#[93, 40]⟩ : ByteArray)) ++ B) = T3 at *
                    generalize (((⟨#[91]⟩ : ByteArray) ++ u) ++ (⟨#[93, 40]⟩ : ByteArray)) = T2 at *
                    generalize ((⟨#[91]⟩ : ByteArray) ++ u) = T1 at *
                    have HP := Lib.hid (show rawI [] T4.data.toList = ⟨5, 0, [], a1.data.toList, a2.data.toList⟩ :: deepI (rawI [] u.data.toList) from by rw [hT, HPL.out]; rfl)
                    clear hT HPI HPL
                    generalize rawI [] u.data.toList = X at *
                    go_wp2_with fail
                    refine (raw_any T4 w4 (H7.out.below HB4.out) hTs).mono ?_
                    rintro e w5 ⟨⟨v1, rfl, hv1⟩, b5⟩
                    rw [HP.out] at hv1
                    have hmx := hv1.len_le
                    unfold maxLen at hmx
                    have hte := textI_deep X
                    have HV0' := Lib.hid (NdAt.belowQ HV0.out b5)
                    have HB5 := Lib.hid (HB4.out.then b5)
                    obtain ⟨Av, cv, rfl, hi, _⟩ := hv1
                    obtain ⟨b, off, hA, hb, c0, c1, c2, c3, c4⟩ := InlsAt.cells5 hi (k := 0) (by simp)
                    subst hA
                    simp only [List.getElem_cons_zero, Nat.zero_mul, Nat.add_zero] at c0 c1 c2 c3 c4
                    rw [show (⟨a1.data.toList.toArray⟩ : ByteArray) = a1 from Lib.mk_data a1] at c3
                    rw [show (⟨a2.data.toList.toArray⟩ : ByteArray) = a2 from Lib.mk_data a2] at c4
                    have hdr : InlsAt w5 (dropI (some ⟨b, off, none⟩) cv 1) (cv - 1) (deepI X) := InlsAt.dropL hi (k := 1) (by simp)
                    obtain ⟨A0', k0, rfl, hi0, _⟩ := HV0'.out
                    have hle := hi.le
                    have hcp := hi.cap
                    unfold maxLen at hcp
                    rw [List.length_cons] at hle hmx ⊢
                    have ct1 := fun (W : World) (hw : Below w5.heap.size w5 W) => text_inl (dropI (some ⟨b, off, none⟩) cv 1) (cv - 1) (deepI X) W (EltsAt.below hdr hw) (by rw [hte]; omega)
                    have ct2 := fun (W : World) (hw : Below w5.heap.size w5 W) => text_inl A0' k0 X W (EltsAt.below hi0 hw) (by omega)
                    rw [hte] at ct1
                    generalize textI X = tx at *
                    have hl0 : ∀ W, (Instr.slice 25 (.slice (some ⟨b, off, none⟩) ((deepI X).length + 1) cv) (some (.int .i64 1)) none none).run Tryz.prog W = .ok (.slice (dropI (some ⟨b, off, none⟩) cv 1) (deepI X).length (cv - 1)) W := fun W => islice_low (some ⟨b, off, none⟩) ((deepI X).length + 1) cv 1 (by omega) W
                    generalize dropI (some ⟨b, off, none⟩) cv 1 = A1 at *
                    generalize (deepI X).length = m at *
                    have hM1 : 1 ≤ m + 1 := by omega
                    generalize m + 1 = M at *
                    have hM2 : decide ((M : Int) < 1) = false := by simp; omega
                    have CT1 := Lib.hid ct1
                    have CT2 := Lib.hid ct2
                    clear b5 HV0 HV0' hi hi0 hdr q1 q2 q3 q4 HP ct1 ct2 hte
                    go_wp2_with fail
                    refine (CT1.out _ (Below.refl _ _)).mono ?_
                    rintro e w6 ⟨rfl, b6⟩
                    have HB6 := Lib.hid b6
                    clear b6
                    go_wp2_with fail
                    refine (CT2.out _ HB6.out).mono ?_
                    rintro e w7 ⟨rfl, b7⟩
                    have HB7 := Lib.hid (HB5.out.then (HB6.out.then b7))
                    clear b7
                    go_wp2
                    go_ret
                    exact ⟨ret_bool (by simp), HB7.out⟩
end Go.Proofs.YteihmgcphbijhaaGreatDoor
