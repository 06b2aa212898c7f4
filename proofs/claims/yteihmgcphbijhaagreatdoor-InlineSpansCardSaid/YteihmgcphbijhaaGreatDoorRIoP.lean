/- Texts joined: IoP. -/
import Derived.Test.YteihmgcphbijhaaGreatDoorQAN
import Derived.Test.YteihmgcphbijhaaGreatDoorQAC
import Derived.Test.YteihmgcphbijhaaGreatDoorQAO
import Derived.LoopN
namespace Go.Proofs.YteihmgcphbijhaaGreatDoor
open Go.RowKit
set_option linter.unusedSimpArgs false
set_option linter.unusedVariables false
set_option maxRecDepth 100000
def OkRel (s : ByteArray) (v : Value) : Prop := ∃ k : Nat, v = .int .i64 k ∧ k ≤ s.size ∧ ∀ b ∈ s.data.toList.take k, okB b = true
theorem beq_of (b c : UInt8) : ((b.toNat : Int) == (c.toNat : Int)) = (b == c) := by
  rw [Bool.eq_iff_iff]
  simp only [beq_iff_eq]
  exact ⟨fun e => UInt8.toNat_inj.1 (by omega), fun e => by rw [e]⟩
theorem ok_yes {b : UInt8} (h : okB b = true) : ((b.toNat : Int) == 0) = false ∧ ((b.toNat : Int) == 96) = false ∧ ((b.toNat : Int) == 60) = false ∧ ((b.toNat : Int) == 91) = false ∧ ((b.toNat : Int) == 93) = false ∧ ((b.toNat : Int) == 92) = false := by
  have h0 := beq_of b 0; have h1 := beq_of b 96; have h2 := beq_of b 60; have h3 := beq_of b 91; have h4 := beq_of b 93; have h5 := beq_of b 92
  simp only [okB, Bool.and_eq_true, bne_iff_ne] at h
  obtain ⟨⟨⟨⟨⟨k0, k5⟩, k1⟩, k2⟩, k3⟩, k4⟩ := h
  exact ⟨h0.trans (by simpa using k0), h1.trans (by simpa using k1), h2.trans (by simpa using k2), h3.trans (by simpa using k3), h4.trans (by simpa using k4), h5.trans (by simpa using k5)⟩
def SpRel (P : List Iln) (w3 : World) (v : Value) (wr : World) : Prop := ∃ i : Nat, v = .int .i64 i ∧ i ≤ P.length ∧ wr = w3
def SkRel (X : List Iln) (w w3 : World) (v : Value) (wr : World) : Prop := ∃ k : Nat, v = .int .i64 k ∧ k ≤ X.length ∧ Below w3.heap.size w3 wr
theorem span_at (P X Q : List Iln) (lb : List UInt8) (d : Int) (k : Nat) (hk : k < X.length) (h : P.length + 1 + k < (P ++ (spanB lb X d ++ Q)).length) :
    (P ++ (spanB lb X d ++ Q))[P.length + 1 + k] = ⟨X[k].kd, X[k].dp + (d + 1), X[k].txt, X[k].url, X[k].ttl⟩ := by
  have e : P ++ (spanB lb X d ++ Q) = (P ++ [⟨12, d, lb, [], []⟩]) ++ (shiftI (d + 1) X ++ Q) := by simp [spanB]
  have hl : (P ++ [(⟨12, d, lb, [], []⟩ : Iln)]).length = P.length + 1 := by simp
  have hs : (shiftI (d + 1) X).length = X.length := by simp [shiftI]
  simp only [e]
  rw [List.getElem_append_right (by omega), List.getElem_append_left (by omega)]
  simp only [hl, Nat.add_sub_cancel_left]
  simp [shiftI]
theorem span_behind (P X Q : List Iln) (lb : List UInt8) (d : Int) (hQ : Q ≠ []) (h : P.length + 1 + X.length < (P ++ (spanB lb X d ++ Q)).length) :
    (P ++ (spanB lb X d ++ Q))[P.length + 1 + X.length] = Q.head hQ := by
  have e : P ++ (spanB lb X d ++ Q) = ((P ++ [⟨12, d, lb, [], []⟩]) ++ shiftI (d + 1) X) ++ Q := by simp [spanB]
  have hl : ((P ++ [(⟨12, d, lb, [], []⟩ : Iln)]) ++ shiftI (d + 1) X).length = P.length + 1 + X.length := by simp [shiftI]; omega
  simp only [e]
  rw [List.getElem_append_right (by omega)]
  simp only [hl, Nat.sub_self]
  rw [List.head_eq_getElem]
theorem NdAt.belowS {w w' : World} {v : Value} {nd : List Iln} (h : NdAt w v nd) (hb : Below w.heap.size w w') : NdAt w' v nd := h.keep (KI.of (B := w.heap.size) hb (Nat.le_refl _))
theorem atms_oneS {w : World} {g : Nat} {lb tx : ByteArray} (h : w.heap[g]? = some (.cells #[.string lb, .string tx] 33 (0, 0))) : AtmsAt w (.slice (some ⟨g, 0, none⟩) 1 1) [⟨lb.data.toList, tx.data.toList⟩] := by
  refine ⟨some ⟨g, 0, none⟩, 1, rfl, elts_block (X := [(⟨lb.data.toList, tx.data.toList⟩ : Atm)]) atC_length (t := 33) ?_ (by show (1 : Nat) ≤ maxLen; decide)⟩
  rw [h]
  rfl
theorem ok_no {b : UInt8} (h : okB b = false) : (b.toNat : Int) = 0 ∨ (b.toNat : Int) = 96 ∨ (b.toNat : Int) = 60 ∨ (b.toNat : Int) = 91 ∨ (b.toNat : Int) = 93 ∨ (b.toNat : Int) = 92 := by
  by_cases k0 : b = 0
  · subst k0; simp
  by_cases k1 : b = 96
  · subst k1; simp
  by_cases k2 : b = 60
  · subst k2; simp
  by_cases k3 : b = 91
  · subst k3; simp
  by_cases k4 : b = 93
  · subst k4; simp
  by_cases k5 : b = 92
  · subst k5; simp
  simp [okB, k0, k1, k2, k3, k4, k5] at h
set_option maxHeartbeats 8000000 in
theorem inlineSpans_walk (w : World) (h7 : TkW w) (a0 : ByteArray) (w0 : a0.size ≤ maxLen) (a1 : ByteArray) (w1 : a1.size ≤ maxLen) (a2 : ByteArray) (w2 : a2.size ≤ maxLen) :
    Calls Tryz.prog 4 #[.string a0, .string a1, .string a2] w fun e w' => e = .returned (.bool true) ∧ Below w.heap.size w w' := by
  have CA := Lib.hid (alive15_any w h7)
  have H7 := Lib.hid h7
  unfold maxLen at w0 w1 w2
  clear h7
  by_cases hz : 40 < a0.size ∨ 40 < a1.size ∨ 40 < a2.size
  · have hcase : 40 < a0.size ∨ (a0.size ≤ 40 ∧ 40 < a1.size) ∨ (a0.size ≤ 40 ∧ a1.size ≤ 40 ∧ 40 < a2.size) := by omega
    clear hz
    rcases hcase with h1 | ⟨h1, h2⟩ | ⟨h1, h2, h3⟩
    all_goals
      go_enter Tryz.func4, Tryz.ntmps4
      go_wp2_with fail
      refine CA.out.mono ?_
      rintro e w1 ⟨rfl, b1⟩
      go_wp2
      go_ret
      exact ⟨rfl, b1⟩
  · have hz0 : a0.size ≤ 40 := by omega
    have hz1 : a1.size ≤ 40 := by omega
    have hz2 : a2.size ≤ 40 := by omega
    clear hz w0 w1 w2
    have hg0 : decide ((40 : Int) < (a0.size : Int)) = false := by simp; omega
    have hg1 : decide ((40 : Int) < (a1.size : Int)) = false := by simp; omega
    have hg2 : decide ((40 : Int) < (a2.size : Int)) = false := by simp; omega
    go_enter Tryz.func4, Tryz.ntmps4
    go_wp2_with fail
    refine CA.out.mono ?_
    rintro e w1 ⟨rfl, b1⟩
    have HB1 := Lib.hid (b1.alloc b1.size (.cells #[.string a0, .string a1, .string a2] 9))
    clear b1
    go_wp2_with fail
    refine wp_loop_rounds 4 ?_
    rw [rounds_succ]
    go_wp2_with fail
    go_loop [9] (fun v => OkRel a0 v) (fun v => a0.size - (intOf v).toNat)
    case atStart => exact ⟨0, rfl, Nat.zero_le _, by simp⟩
    case round =>
      obtain ⟨k, rfl, hk, hall⟩ := hrel
      by_cases hlt : k < a0.size
      · cases hb : okB a0[k] with
        | true =>
          have HA := Lib.hid (take_mem a0 k hlt okB hall hb)
          obtain ⟨g0, g1, g2, g3, g4, g5⟩ := ok_yes hb
          clear hb hall
          go_wp2
          all_goals first
            | exact ⟨⟨k + 1, by go_num, by omega, HA.out⟩, by simp only [intOf]; omega⟩
            | (go_round
               case rel => exact ⟨k + 1, by go_num, by omega, HA.out⟩
               case measure => simp [intOf]; omega)
        | false =>
          have g := ok_no hb
          clear hb hall
          rcases g with g | g | g | g | g | g
          all_goals
            go_wp2
            go_ret
            exact ⟨rfl, HB1.out⟩
      · obtain rfl : k = a0.size := by omega
        rw [List.take_of_length_le (by rw [size_len']; exact Nat.le_refl _)] at hall
        have HA_a0 := Lib.hid hall
        clear hall
        go_wp2_with fail
        rw [rounds_succ]
        go_wp2_with fail
        go_loop [9] (fun v => OkRel a1 v) (fun v => a1.size - (intOf v).toNat)
        case atStart => exact ⟨0, rfl, Nat.zero_le _, by simp⟩
        case round =>
          obtain ⟨k, rfl, hk, hall⟩ := hrel
          by_cases hlt : k < a1.size
          · cases hb : okB a1[k] with
            | true =>
              have HA := Lib.hid (take_mem a1 k hlt okB hall hb)
              obtain ⟨g0, g1, g2, g3, g4, g5⟩ := ok_yes hb
              clear hb hall
              go_wp2
              all_goals first
                | exact ⟨⟨k + 1, by go_num, by omega, HA.out⟩, by simp only [intOf]; omega⟩
                | (go_round
                   case rel => exact ⟨k + 1, by go_num, by omega, HA.out⟩
                   case measure => simp [intOf]; omega)
            | false =>
              have g := ok_no hb
              clear hb hall
              rcases g with g | g | g | g | g | g
              all_goals
                go_wp2
                go_ret
                exact ⟨rfl, HB1.out⟩
          · obtain rfl : k = a1.size := by omega
            rw [List.take_of_length_le (by rw [size_len']; exact Nat.le_refl _)] at hall
            have HA_a1 := Lib.hid hall
            clear hall
            go_wp2_with fail
            rw [rounds_succ]
            go_wp2_with fail
            go_loop [9] (fun v => OkRel a2 v) (fun v => a2.size - (intOf v).toNat)
            case atStart => exact ⟨0, rfl, Nat.zero_le _, by simp⟩
            case round =>
              obtain ⟨k, rfl, hk, hall⟩ := hrel
              by_cases hlt : k < a2.size
              · cases hb : okB a2[k] with
                | true =>
                  have HA := Lib.hid (take_mem a2 k hlt okB hall hb)
                  obtain ⟨g0, g1, g2, g3, g4, g5⟩ := ok_yes hb
                  clear hb hall
                  go_wp2
                  all_goals first
                    | exact ⟨⟨k + 1, by go_num, by omega, HA.out⟩, by simp only [intOf]; omega⟩
                    | (go_round
                       case rel => exact ⟨k + 1, by go_num, by omega, HA.out⟩
                       case measure => simp [intOf]; omega)
                | false =>
                  have g := ok_no hb
                  clear hb hall
                  rcases g with g | g | g | g | g | g
                  all_goals
                    go_wp2
                    go_ret
                    exact ⟨rfl, HB1.out⟩
              · obtain rfl : k = a2.size := by omega
                rw [List.take_of_length_le (by rw [size_len']; exact Nat.le_refl _)] at hall
                have HA_a2 := Lib.hid hall
                clear hall
                go_wp2_with fail
                rw [rounds_succ]
                have r1 := fun W => run_string_add_sum (P := Tryz.prog) W a0 (⟨#[0, 48, 0]⟩ : ByteArray) (by show a0.size + 3 ≤ _; omega)
                have r2 := fun W => run_string_add_sum (P := Tryz.prog) W (a0 ++ (⟨#[0, 48, 0]⟩ : ByteArray)) a2 (by rw [ByteArray.size_append]; show a0.size + 3 + a2.size ≤ _; omega)
                have hTl : (a0 ++ (⟨#[0, 48, 0]⟩ : ByteArray) ++ a2).data.toList = a0.data.toList ++ ([0, 48, 0] ++ a2.data.toList) := by simp
                have hTs : (a0 ++ (⟨#[0, 48, 0]⟩ : ByteArray) ++ a2).size ≤ 83 := by rw [ByteArray.size_append, ByteArray.size_append]; show a0.size + 3 + a2.size ≤ _; omega
                generalize a0 ++ (⟨#[0, 48, 0]⟩ : ByteArray) ++ a2 = T at *
                generalize a0 ++ (⟨#[0, 48, 0]⟩ : ByteArray) = T1 at *
                have hsl : a1.data.toList.length ≤ 40 := by rw [size_len']; exact hz1
                obtain ⟨P, d, Q, hE, hno, hd0, hd1, hq⟩ := spans_plain [] [108] a1.data.toList a0.data.toList a2.data.toList HA_a0.out HA_a2.out (by rw [size_len', size_len', size_len']; omega)
                rw [← hTl] at hE
                have hsh := shapes_plain [] a1.data.toList (by omega)
                have HE := Lib.hid hE
                have HNO := Lib.hid hno
                have HQ := Lib.hid hq
                have HSH := Lib.hid hsh.1
                clear hTl hE hno hq hsh
                go_wp2_with fail
                have HB4 := Lib.hid (HB1.out.alloc HB1.out.size (.cells #[.string ⟨#[108]⟩, .string a1] 33))
                have hat := atms_oneS (heap_alloc_new (w1.alloc (.cells #[.string a0, .string a1, .string a2] 9)) (.cells #[.string ⟨#[108]⟩, .string a1] 33))
                rw [alloc_size] at hat
                generalize (w1.alloc (.cells #[.string a0, .string a1, .string a2] 9)).alloc (.cells #[.string ⟨#[108]⟩, .string a1] 33) = w4 at *
                refine (parse_atm (s := T) (D := []) (Or.inl ⟨rfl, rfl⟩) (H7.out.below HB4.out) (by simp) (by omega) hat (by simp) (M := 40) (C := 328) (by omega) (by intro a ha; simp at ha; subst ha; exact hsl) rfl (by omega)).mono ?_
                rintro e w5 ⟨⟨v2, rfl, hv2⟩, b5⟩
                have hv2' : NdAt w5 v2 (P ++ (spanB [108] (rawI [] a1.data.toList) d ++ Q)) := by rw [← HE.out]; exact hv2
                have HV2 := Lib.hid hv2'
                have HB5 := Lib.hid (HB4.out.then b5)
                clear hv2 hv2' hat b5 r1 r2
                go_wp2_with fail
                refine (raw_any a1 w5 (H7.out.below HB5.out) (by omega)).mono ?_
                rintro e w6 ⟨⟨v3, rfl, hv3⟩, b6⟩
                have HV3 := Lib.hid hv3
                have HV2' := Lib.hid (NdAt.belowS HV2.out b6)
                have HB6 := Lib.hid (HB5.out.then b6)
                clear hv3 b6 HV2
                generalize rawI [] a1.data.toList = X at *
                obtain ⟨b1, o1, k1, rfl, hb1, hc1⟩ := HV2'.out.at (by simp [spanB])
                have hlen0 : (P ++ (spanB [108] X d ++ Q)).length = P.length + (1 + X.length + Q.length) := by simp [spanB, shiftI]; omega
                obtain ⟨N, hN⟩ : ∃ N, N = P.length + (1 + X.length + Q.length) := ⟨_, rfl⟩
                have hlen : (P ++ (spanB [108] X d ++ Q)).length = N := hlen0.trans hN.symm
                have hN1 : P.length + 1 + X.length ≤ N := by omega
                have HN := Lib.hid hN
                clear hN hlen0
                have hmx := HV2'.out.len_le
                unfold maxLen at hmx
                rw [hlen] at hmx ⊢
                obtain ⟨A3, c3, rfl, hi3, _⟩ := HV3.out
                have hk1 : N ≤ k1 ∧ k1 ≤ 9223372036854775807 := by
                  obtain ⟨A9, c9, e9, h9, _⟩ := HV2'.out
                  have h1 := h9.le
                  have h2 := h9.cap
                  rw [hlen] at h1
                  unfold maxLen at h2
                  injection e9 with _ _ e9
                  omega
                have hc3 : X.length ≤ c3 ∧ c3 ≤ 9223372036854775807 := by
                  have h1 := hi3.le
                  have h2 := hi3.cap
                  unfold maxLen at h2
                  omega
                have HC1 := Lib.hid hc1
                have HI3 := Lib.hid hi3
                have HLEN := Lib.hid hlen
                clear hc1 hi3 hlen HV2' HV3
                go_wp2_with fail
                obtain ⟨wq, hwq⟩ : ∃ wq, wq = w6 := ⟨_, rfl⟩
                subst hwq
                go_loopw [96] (fun v wr => SpRel P wq v wr) (fun v _ => P.length + 1 - (intOf v).toNat)
                case atStart => exact ⟨0, rfl, Nat.zero_le _, rfl⟩
                case round =>
                  obtain ⟨i, rfl, hi, hwr⟩ := hrel
                  obtain rfl : wq = wr := hwr.symm
                  clear hwr
                  by_cases hlt : i < P.length
                  · have hci := HC1.out i (by rw [HLEN.out]; omega)
                    simp only [List.getElem_append_left hlt] at hci
                    obtain ⟨c0, c1, c2, c3', c4⟩ := hci
                    have hkd := HNO.out P[i] (List.getElem_mem hlt)
                    generalize P[i] = x at *
                    obtain ⟨kd, dp, tx, ur, tt⟩ := x
                    dsimp only at c0 c1 c2 c3' c4 hkd
                    have hkb : (kd != 12) = true := by simpa using hkd
                    clear hkd c1 c2 c3' c4
                    go_wp2
                    go_roundw
                    case rel => exact ⟨i + 1, by go_num, by omega, rfl⟩
                    case measure => simp [intOf]; omega
                  · obtain rfl : i = P.length := by omega
                    have hci := HC1.out P.length (by rw [HLEN.out]; omega)
                    rw [show (P ++ (spanB [108] X d ++ Q))[P.length]'(by rw [HLEN.out]; omega) = ⟨12, d, [108], [], []⟩ from by rw [List.getElem_append_right (Nat.le_refl _)]; simp [spanB]] at hci
                    obtain ⟨c0, c1, c2, c3', c4⟩ := hci
                    have hge : decide ((N : Int) ≤ ((P.length : Nat) : Int) + ((X.length : Nat) : Int)) = false := by simp; omega
                    have HC1' := HC1
                    obtain ⟨wo, hwo⟩ : ∃ wo, wo = wq := ⟨_, rfl⟩
                    have hpN : P.length < N := by omega
                    clear c3'
                    go_wp2_with fail
                    go_loopw [143] (fun v wr => SkRel X w wq v wr) (fun v _ => X.length - (intOf v).toNat)
                    case atStart => exact ⟨0, rfl, Nat.zero_le _, Below.refl _ _⟩
                    case round =>
                      obtain ⟨k, rfl, hkx, hbw⟩ := hrel
                      by_cases hkl : k < X.length
                      · have hcn := HC1.out (P.length + 1 + k) (by rw [HLEN.out]; omega)
                        rw [span_at P X Q [108] d k hkl] at hcn
                        obtain ⟨b3, o3, hA3, hb3, x0, x1, x2, x3, x4⟩ := InlsAt.cells5 HI3.out hkl
                        subst hA3
                        have hxd := (HSH.out X[k] (List.getElem_mem hkl)).2.2
                        generalize X[k] = x at *
                        obtain ⟨kd, dp, tx, ur, tt⟩ := x
                        dsimp only at hcn x0 x1 x2 x3 x4 hxd
                        have y0 := (hbw.cell (p := ⟨b3, o3 + k * 5, none⟩) hb3).trans x0
                        have y1 := (hbw.cell (p := ⟨b3, o3 + k * 5 + 1, none⟩) hb3).trans x1
                        have y2 := (hbw.cell (p := ⟨b3, o3 + k * 5 + 2, none⟩) hb3).trans x2
                        have y3 := (hbw.cell (p := ⟨b3, o3 + k * 5 + 3, none⟩) hb3).trans x3
                        have y4 := (hbw.cell (p := ⟨b3, o3 + k * 5 + 4, none⟩) hb3).trans x4
                        obtain ⟨z0, z1, z2, z3, z4⟩ := hcn
                        have HZ := Lib.hid (And.intro ((hbw.cell (p := ⟨b1, o1 + (P.length + 1 + k) * 5, none⟩) hb1).trans z0) (And.intro ((hbw.cell (p := ⟨b1, o1 + (P.length + 1 + k) * 5 + 1, none⟩) hb1).trans z1) (And.intro ((hbw.cell (p := ⟨b1, o1 + (P.length + 1 + k) * 5 + 2, none⟩) hb1).trans z2) (And.intro ((hbw.cell (p := ⟨b1, o1 + (P.length + 1 + k) * 5 + 3, none⟩) hb1).trans z3) ((hbw.cell (p := ⟨b1, o1 + (P.length + 1 + k) * 5 + 4, none⟩) hb1).trans z4)))))
                        have hbs := hbw.size
                        have HBW := Lib.hid hbw
                        clear hbw x0 x1 x2 x3 x4 z0 z1 z2 z3 z4
                        go_wp2_with fail
                        have bX := (Below.refl wr.heap.size wr).alloc (Nat.le_refl _) (.cells #[.int .i64 kd, .int .i64 (dp + (d + 1)), .string ⟨tx.toArray⟩, .string ⟨ur.toArray⟩, .string ⟨tt.toArray⟩] 28)
                        have hx := heap_alloc_new wr (.cells #[.int .i64 kd, .int .i64 (dp + (d + 1)), .string ⟨tx.toArray⟩, .string ⟨ur.toArray⟩, .string ⟨tt.toArray⟩] 28)
                        obtain ⟨z0, z1, z2, z3, z4⟩ := HZ.out
                        have hbr : b1 < wr.heap.size := by omega
                        have z0 := (bX.cell (p := ⟨b1, o1 + (P.length + 1 + k) * 5, none⟩) hbr).trans z0
                        have z1 := (bX.cell (p := ⟨b1, o1 + (P.length + 1 + k) * 5 + 1, none⟩) hbr).trans z1
                        have z2 := (bX.cell (p := ⟨b1, o1 + (P.length + 1 + k) * 5 + 2, none⟩) hbr).trans z2
                        have z3 := (bX.cell (p := ⟨b1, o1 + (P.length + 1 + k) * 5 + 3, none⟩) hbr).trans z3
                        have z4 := (bX.cell (p := ⟨b1, o1 + (P.length + 1 + k) * 5 + 4, none⟩) hbr).trans z4
                        have x0 := (cell_of_row _ wr.heap.size 0 _ _ (0, 0) hx).trans rfl
                        have x1 := (cell_of_row _ wr.heap.size 1 _ _ (0, 0) hx).trans rfl
                        have x2 := (cell_of_row _ wr.heap.size 2 _ _ (0, 0) hx).trans rfl
                        have x3 := (cell_of_row _ wr.heap.size 3 _ _ (0, 0) hx).trans rfl
                        have x4 := (cell_of_row _ wr.heap.size 4 _ _ (0, 0) hx).trans rfl
                        have HBX := Lib.hid (HBW.out.then bX)
                        have hidI : (P.length : Int) + 1 + (k : Int) < (N : Int) := by omega
                        have hid0 : (0 : Int) ≤ (P.length : Int) + 1 + (k : Int) := by omega
                        have hidN : P.length + 1 + k < N := by omega
                        clear y0 y1 y2 y3 y4 hx bX
                        generalize wr.alloc (.cells #[.int .i64 kd, .int .i64 (dp + (d + 1)), .string ⟨tx.toArray⟩, .string ⟨ur.toArray⟩, .string ⟨tt.toArray⟩] 28) = wx at *
                        go_quiet (fail)
                        go_wp2
                        go_roundw
                        case rel => exact ⟨k + 1, by go_num, by omega, below_drewN' HBX.out _⟩
                        case measure => simp [intOf]; omega
                      · obtain rfl : k = X.length := by omega
                        have HBW := Lib.hid hbw
                        have hbs := hbw.size
                        by_cases hQ : Q = []
                        · have hNe : (P.length : Int) + 1 + (X.length : Int) = (N : Int) := by have := HN.out; rw [hQ] at this; simp at this; omega
                          clear hbw c0 c1 c2 c4
                          go_wp2
                          go_ret
                          exact ⟨rfl, HB6.out.then HBW.out⟩
                        · have hNl : P.length + 1 + X.length < N := by have := HN.out; have := List.length_pos_iff.2 hQ; omega
                          have hcn := HC1.out (P.length + 1 + X.length) (by rw [HLEN.out]; omega)
                          rw [span_behind P X Q [108] d hQ] at hcn
                          have hqd : (Q.head hQ).dp ≤ d := by
                            have := HQ.out
                            cases Q with
                            | nil => exact absurd rfl hQ
                            | cons x l => simp only [nestOk, Bool.and_eq_true, decide_eq_true_eq] at this; exact this.1
                          have z1 := (hbw.cell (p := ⟨b1, o1 + (P.length + 1 + X.length) * 5 + 1, none⟩) hb1).trans hcn.2.1
                          generalize (Q.head hQ).dp = qd at *
                          have hneq : ((P.length : Int) + 1 + (X.length : Int) == (N : Int)) = false := by rw [beq_eq_false_iff_ne]; omega
                          clear hbw c0 c1 c2 c4 hcn hQ
                          go_wp2
                          go_ret
                          exact ⟨ret_bool (by simp <;> omega), HB6.out.then HBW.out⟩
end Go.Proofs.YteihmgcphbijhaaGreatDoor
