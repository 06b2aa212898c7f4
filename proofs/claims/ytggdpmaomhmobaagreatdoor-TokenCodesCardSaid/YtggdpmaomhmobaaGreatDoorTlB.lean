/-
  The laws of the layer token: TokenWords: its walk.
-/
import Derived.Test.YtggdpmaomhmobaaGreatDoorTkY
import Derived.Test.YtggdpmaomhmobaaGreatDoorTkL
namespace Go.Proofs.YtggdpmaomhmobaaGreatDoor
open Go.RowKit
set_option linter.unusedSimpArgs false
set_option linter.unusedVariables false
set_option maxRecDepth 100000

theorem RowOf.tokAt {w : World} {A : Option Addr} {cap : Nat} {ts : List Tk} (h : RowOf w A cap (tkVs ts)) {k : Nat} (hk : k < ts.length) :
    ∃ b off, A = some ⟨b, off, none⟩ ∧ b < w.heap.size ∧ w.cell? ⟨b, off + k, none⟩ = some (tkV ts[k]) := by
  obtain ⟨b, off, rfl, hb, hc⟩ := h.at (by intro e; rw [show ts = [] from List.map_eq_nil_iff.1 e] at hk; simp at hk)
  refine ⟨b, off, rfl, hb, ?_⟩
  rw [hc k (by rw [tkVs_length]; exact hk)]
  simp [tkVs]
def WordsRel (s : ByteArray) (v : Value) : Prop := ∃ k : Nat, v = .int .i64 k ∧ k ≤ s.size ∧ ∀ b ∈ s.data.toList.take k, tkPlain b = true
def WordsRel2 (ws : List (List UInt8)) (w w1 : World) (t j : Value) (wr : World) : Prop :=
  ∃ k : Nat, j = .int .i64 k ∧ k ≤ ws.length ∧ t = .string ⟨((ws.take k).flatten).toArray⟩ ∧ Below w.heap.size w wr ∧ Below w1.heap.size w1 wr
theorem plain_cases (b : UInt8) (h : tkPlain b = true) : (97 ≤ (b.toNat : Int) ∧ (b.toNat : Int) ≤ 122) ∨ b = 32 ∨ b = 46 ∨ 128 ≤ (b.toNat : Int) := by
  unfold tkPlain at h
  simp only [Bool.or_eq_true, beq_iff_eq, decide_eq_true_eq] at h
  rcases h with ((h | h) | h) | h
  · exact Or.inl ((inR_iff _ _ _).1 h)
  · exact Or.inr (Or.inl h)
  · exact Or.inr (Or.inr (Or.inl h))
  · exact Or.inr (Or.inr (Or.inr h))
theorem plain_not (b : UInt8) (h : tkPlain b = false) : ((b.toNat : Int) < 97 ∨ 122 < (b.toNat : Int)) ∧ ((b.toNat : Int) == 32) = false ∧ ((b.toNat : Int) == 46) = false ∧ (b.toNat : Int) < 128 := by
  unfold tkPlain at h
  simp only [Bool.or_eq_false_iff, decide_eq_false_iff_not] at h
  obtain ⟨⟨⟨h1, h2⟩, h3⟩, h4⟩ := h
  have e1 := (inR_f _ _ _).1 h1
  have e2 := eq_byte b 32
  have e3 := eq_byte b 46
  rw [h2] at e2
  rw [h3] at e3
  exact ⟨by omega, e2, e3, by omega⟩
theorem take_mem (s : ByteArray) (k : Nat) (h : k < s.size) (p : UInt8 → Bool) (ht : ∀ b ∈ s.data.toList.take k, p b = true) (hk : p s[k] = true) : ∀ b ∈ s.data.toList.take (k + 1), p b = true := by
  rw [List.take_succ_eq_append_getElem (by simpa using h)]
  intro b hb
  rcases List.mem_append.1 hb with hb | hb
  · exact ht b hb
  · rw [List.mem_singleton.1 hb]; exact hk

set_option maxHeartbeats 4000000 in
theorem tokenWords_walk (w : World) (h7 : TkW w) (a0 : ByteArray) (w0 : a0.size ≤ maxLen) :
    Calls Tryz.prog 3 #[.string a0] w fun e w' => e = .returned (.bool true) ∧ Below w.heap.size w w' := by
  have CA := Lib.hid (alive12_any w h7)
  have H7 := Lib.hid h7
  unfold maxLen at w0
  clear h7
  by_cases hz : 200 < a0.size
  · go_enter Tryz.func3, Tryz.ntmps3
    go_wp2_with fail
    refine CA.out.mono ?_
    rintro e w1 ⟨rfl, b1⟩
    go_wp2
    go_ret
    exact ⟨rfl, b1⟩
  · have hz2 : a0.size ≤ 200 := by omega
    clear hz
    go_enter Tryz.func3, Tryz.ntmps3
    go_wp2_with fail
    refine CA.out.mono ?_
    rintro e w1 ⟨rfl, b1⟩
    have HB1 := Lib.hid b1
    clear b1
    go_wp2_with fail
    go_loop [3] (fun v => WordsRel a0 v) (fun v => a0.size - (intOf v).toNat)
    case atStart => exact ⟨0, rfl, Nat.zero_le _, by simp⟩
    case round =>
      obtain ⟨k, rfl, hk, hall⟩ := hrel
      by_cases hlt : k < a0.size
      · cases hb : tkPlain a0[k] with
        | true =>
          have HA := Lib.hid (take_mem a0 k hlt tkPlain hall hb)
          have hc := plain_cases _ hb
          clear hb hall
          have e32 := eq_byte a0[k] 32
          have e46 := eq_byte a0[k] 46
          rw [show (((32 : UInt8).toNat : Nat) : Int) = 32 from rfl] at e32
          rw [show (((46 : UInt8).toNat : Nat) : Int) = 46 from rfl] at e46
          rcases hc with ⟨h1, h2⟩ | h | h | h
          · clear e32 e46
            go_wp2
            all_goals first
              | exact ⟨⟨k + 1, by go_num, by omega, HA.out⟩, by simp only [intOf]; omega⟩
              | (go_round
                 case rel => exact ⟨k + 1, by go_num, by omega, HA.out⟩
                 case measure => simp [intOf]; omega)
          · rw [show (a0[k] == 32) = true from by simpa using h] at e32
            clear e46
            have g1 : (a0[k].toNat : Int) < 97 := by rw [h]; decide
            clear h
            go_wp2
            all_goals first
              | exact ⟨⟨k + 1, by go_num, by omega, HA.out⟩, by simp only [intOf]; omega⟩
              | (go_round
                 case rel => exact ⟨k + 1, by go_num, by omega, HA.out⟩
                 case measure => simp [intOf]; omega)
          · rw [show (a0[k] == 46) = true from by simpa using h] at e46
            rw [show (a0[k] == 32) = false from by rw [h]; rfl] at e32
            have g1 : (a0[k].toNat : Int) < 97 := by rw [h]; decide
            clear h
            go_wp2
            all_goals first
              | exact ⟨⟨k + 1, by go_num, by omega, HA.out⟩, by simp only [intOf]; omega⟩
              | (go_round
                 case rel => exact ⟨k + 1, by go_num, by omega, HA.out⟩
                 case measure => simp [intOf]; omega)
          · have g1 : (97 : Int) ≤ a0[k].toNat := by omega
            have g2 : (122 : Int) < a0[k].toNat := by omega
            have g3 : ((a0[k].toNat : Int) == 32) = false := by simp; omega
            have g4 : ((a0[k].toNat : Int) == 46) = false := by simp; omega
            clear e32 e46
            go_wp2
            all_goals first
              | exact ⟨⟨k + 1, by go_num, by omega, HA.out⟩, by simp only [intOf]; omega⟩
              | (go_round
                 case rel => exact ⟨k + 1, by go_num, by omega, HA.out⟩
                 case measure => simp [intOf]; omega)
        | false =>
          obtain ⟨h1, h2, h3, h4⟩ := plain_not _ hb
          have h5 : decide ((128 : Int) ≤ a0[k].toNat) = false := by simp; omega
          clear hb hall
          rcases h1 with h1 | h1
          · go_wp2
            go_ret
            exact ⟨rfl, HB1.out⟩
          · have g1 : (97 : Int) ≤ a0[k].toNat := by omega
            have g2 : decide ((a0[k].toNat : Int) ≤ 122) = false := by simp; omega
            go_wp2
            go_ret
            exact ⟨rfl, HB1.out⟩
      · obtain rfl : k = a0.size := by omega
        rw [List.take_of_length_le (by rw [size_len']; exact Nat.le_refl _)] at hall
        obtain ⟨ws, hts, hfl⟩ := tokens_plain a0.data.toList hall
        have hwl : ws.length ≤ 200 := by
          have := tokens_count _ a0.data.toList (Nat.le_refl _)
          rw [hts, List.length_map, size_len'] at this
          omega
        have c1 := all_tk a0 w1 (H7.out.below HB1.out) (by omega)
        rw [hts] at c1
        have hT : (⟨(ws.flatten).toArray⟩ : ByteArray) = a0 := by rw [hfl, Lib.mk_data]
        have hfs : ws.flatten.length ≤ 200 := by rw [hfl, size_len']; exact hz2
        clear hall hts hfl
        go_wp2_with fail
        refine c1.mono ?_
        rintro e w2 ⟨v, rfl, hown, b2⟩
        obtain ⟨A, cap, rfl, hrow, _, _⟩ := RowOf.own hown
        have HR := Lib.hid hrow
        have HB2 := Lib.hid (HB1.out.then b2)
        have HT := Lib.hid hT
        rw [List.length_map] at *
        clear hown hrow b2 c1 hT
        go_wp2_with fail
        go_loopw [5, 47] (fun t j wr => WordsRel2 ws w w2 t j wr) (fun _ j _ => ws.length - (intOf j).toNat)
        case atStart => exact ⟨0, rfl, Nat.zero_le _, rfl, HB2.out, Below.refl _ _⟩
        case round =>
          obtain ⟨j, rfl, hj, rfl, hbw, hb2⟩ := hrel
          by_cases hjl : j < ws.length
          · obtain ⟨b, off, rfl, hb, hcell⟩ := (HR.out.below hb2).tokAt (k := j) (by rw [List.length_map]; exact hjl)
            rw [List.getElem_map] at hcell
            have ct := fun W => tok_word ws[j] W
            have cm := fun W => mustWord_any ws[j] W
            have hfj : ((ws.take j).flatten).length + ws[j].length ≤ 200 := by
              have e : ws.flatten = (ws.take j).flatten ++ (ws[j] ++ (ws.drop (j + 1)).flatten) := by
                conv => lhs; rw [← List.take_append_drop j ws, List.flatten_append, List.drop_eq_getElem_cons hjl, List.flatten_cons]
              rw [e] at hfs
              simp only [List.length_append] at hfs
              omega
            have hsn : (ws.take (j + 1)).flatten = (ws.take j).flatten ++ ws[j] := by
              rw [List.take_succ_eq_append_getElem hjl, List.flatten_append]; simp
            have HSN := Lib.hid (show (⟨((ws.take j).flatten).toArray⟩ : ByteArray) ++ ⟨(ws[j]).toArray⟩ = ⟨((ws.take (j + 1)).flatten).toArray⟩ from by rw [str_append, hsn])
            have hsum := fun W => run_string_add_sum (P := Tryz.prog) W (⟨((ws.take j).flatten).toArray⟩ : ByteArray) ⟨(ws[j]).toArray⟩ (by rw [str_size, str_size]; omega)
            rw [HSN.out] at hsum
            generalize ws[j] = x at *
            generalize (⟨((ws.take j).flatten).toArray⟩ : ByteArray) = t at *
            generalize tkV (.word x) = v at *
            unfold tokV at ct
            simp only [kindV, textTk, urlTk, numTk] at ct
            have q0 := fun a b c d W => tokF0 a b c d W
            have CT := Lib.hid ct
            have CM := Lib.hid cm
            have HB := Lib.hid hbw
            have HB3 := Lib.hid hb2
            clear ct cm hsn hbw hb2
            go_wp2_with fail
            refine (CT.out _).mono ?_
            rintro e w3 ⟨rfl, b3⟩
            have HB4 := Lib.hid (HB.out.then b3)
            have HB5 := Lib.hid (HB3.out.then b3)
            clear b3
            go_wp2_with fail
            refine (CM.out _).mono ?_
            rintro e w4 ⟨rfl, rfl⟩
            go_wp2
            go_roundw
            case rel => exact ⟨j + 1, by go_num, by omega, rfl, HB4.out, HB5.out⟩
            case measure => simp [intOf]; omega
          · obtain rfl : j = ws.length := by omega
            have ht : (⟨((ws.take ws.length).flatten).toArray⟩ : ByteArray) = a0 := by rw [List.take_length]; exact HT.out
            rw [ht]
            have HB := Lib.hid hbw
            clear ht hbw hb2
            go_wp2
            go_ret
            exact ⟨ret_bool (by simp), HB.out⟩

end Go.Proofs.YtggdpmaomhmobaaGreatDoor
