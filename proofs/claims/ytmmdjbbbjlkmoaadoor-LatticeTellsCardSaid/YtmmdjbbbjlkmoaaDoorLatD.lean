/-
  Package lattice: sound.
-/
import Derived.Test.YtmmdjbbbjlkmoaaDoorLatB
namespace Go.Proofs.YtmmdjbbbjlkmoaaDoor
open Go.RowKit
set_option linter.unusedVariables false
set_option linter.unusedSimpArgs false

theorem only_self {n : Nat} {R : Rel} (hr : ∀ a, a < n → R a a = true) {a : Nat} (ha : a < n) :
    upF n R a &&& upF n (flipR R) a = 2 ^ a ↔ ∀ y, y < n → R a y = true → R y a = true → y = a := by
  constructor
  · intro e y hy h1 h2
    have h3 := congrArg (fun z => z.testBit y) e
    simp only [Nat.testBit_and, testBit_upF ha, decide_eq_true hy, Bool.true_and, flipR, h1, h2, Nat.testBit_two_pow] at h3
    have : a = y := by simpa using h3
    exact this.symm
  · intro h
    apply Nat.eq_of_testBit_eq
    intro y
    rw [Nat.testBit_and, testBit_upF ha, testBit_upF ha, Nat.testBit_two_pow, flipR]
    by_cases e : a = y
    · subst e
      simp [ha, hr a ha]
    · rw [decide_eq_false e]
      by_cases hy : y < n
      · rw [decide_eq_true hy, Bool.true_and, Bool.true_and]
        cases h1 : R a y with
        | false => rfl
        | true =>
          cases h2 : R y a with
          | false => rfl
          | true => exact absurd (h y hy h1 h2).symm e
      · rw [decide_eq_false hy]; rfl

def SndRel (n : Nat) (R : Rel) (w : World) (i : Value) (wr : World) : Prop := ∃ k m : Nat, i = .int .i64 k ∧ k ≤ n ∧ SoundTo n R k ∧ wr = w.drewN m
def SndRel2 (n : Nat) (R : Rel) (k : Nat) (w : World) (i : Value) (wr : World) : Prop := ∃ j m : Nat, i = .int .i64 j ∧ j ≤ k ∧ (∀ b, b < j → 0 ≤ joinR n R k b ∧ 0 ≤ meetR n R k b) ∧ wr = w.drewN m
theorem drewN_add (w : World) (a b : Nat) : ∃ c, (w.drewN a).drewN b = w.drewN c := ⟨a + b, by rw [World.drewN_drewN]⟩

set_option maxRecDepth 100000 in
set_option maxHeartbeats 2000000 in
theorem sound_any {b n : Nat} {R : Rel} (w : World) (hT : TabIs w) (h : LatIs w b n R) :
    Calls Tryd.prog 21 #[.pointer (some ⟨b, 0, none⟩)] w fun e w' => e = .returned (.bool (decide (Sound n R))) ∧ ∃ m, w' = w.drewN m := by
  have c0 := h.mem.c0
  have hm := h.most
  have HH := Lib.hid h
  have HT := Lib.hid hT
  clear h hT
  go_enter Tryd.func21, Tryd.ntmps21
  go_wp2_with fail
  go_loopw [9] (fun i wr => SndRel n R w i wr) (fun i _ => n - (intOf i).toNat)
  case atStart => exact ⟨0, 0, rfl, Nat.zero_le _, fun a ha => absurd ha (Nat.not_lt_zero _), rfl⟩
  case round =>
    obtain ⟨k, m, rfl, hk, hs, rfl⟩ := hrel
    have HS := Lib.hid hs
    clear hs
    by_cases hkn : k < n
    · have hcu := HH.out.mem.cu k (by omega)
      have hcd := HH.out.mem.cd k (by omega)
      have hu := upF_lt hm R k
      have hd := upF_lt hm (flipR R) k
      have c1 := fun W => one_any k (by omega) W
      have hand := bits_and_u64_nat _ _ hu hd
      have hk64 : (k : Int) < 64 := by omega
      have HO := Lib.hid (only_self HH.out.refl hkn)
      by_cases ho : upF n R k &&& upF n (flipR R) k = 2 ^ k
      · have HY := Lib.hid (HO.out.1 ho)
        have hne : (bits BinOp.and IntKind.u64 (upF n R k : Int) (upF n (flipR R) k : Int) != ((2 ^ k : Nat) : Int)) = false := by
          rw [hand, ho]; simp
        generalize upF n R k = u1 at *
        generalize upF n (flipR R) k = u2 at *
        generalize 2 ^ k = pw at *
        clear hand ho
        go_wp2_with fail
        go_quiet ((go_at_call 26; exact (c1 _).mono (fun _ _ h => ⟨h.1, _, h.2⟩)))
        rename_i nq
        go_wp2_with fail
        go_loopw [29] (fun i wr => SndRel2 n R k w i wr) (fun i _ => k - (intOf i).toNat)
        case atStart =>
          obtain ⟨c, hc⟩ := drewN_add w m nq
          exact ⟨0, c, rfl, Nat.zero_le _, fun a ha => absurd ha (Nat.not_lt_zero _), by first | exact hc | rfl | (rw [← hc]; rfl)⟩
        case round =>
          obtain ⟨j, m2, rfl, hj, hs2, rfl⟩ := hrel
          have HS2 := Lib.hid hs2
          clear hs2
          by_cases hjk : j < k
          · have cj := fun q => join_in k j (by omega) (by omega) (w.drewN q) (HT.out.heap rfl) (HH.out.heap rfl)
            have cm := fun q => meet_in k j (by omega) (by omega) (w.drewN q) (HT.out.heap rfl) (HH.out.heap rfl)
            have HNS := Lib.hid (show ¬ (0 ≤ joinR n R k j ∧ 0 ≤ meetR n R k j) → decide (Sound n R) = false from fun h0 => decide_eq_false fun hs => h0 ⟨hs.2.1 k hkn j (by omega), hs.2.2 k hkn j (by omega)⟩)
            have HRR := Lib.hid (show 0 ≤ joinR n R k j → 0 ≤ meetR n R k j → ∀ b, b < j + 1 → 0 ≤ joinR n R k b ∧ 0 ≤ meetR n R k b from fun h1 h2 b hb => by
              by_cases e : b = j
              · subst e; exact ⟨h1, h2⟩
              · exact HS2.out b (by omega))
            generalize joinR n R k j = zj at *
            generalize meetR n R k j = zm at *
            by_cases hj0 : 0 ≤ zj
            · by_cases hm0 : 0 ≤ zm
              · have HJ := Lib.hid (HRR.out hj0 hm0)
                have fj : decide (zj < 0) = false := by simp; omega
                have fm : decide (zm < 0) = false := by simp; omega
                clear hj0 hm0
                go_wp2_with fail
                refine (cj _).mono ?_
                rintro e w3 ⟨rfl, m3, rfl⟩
                obtain ⟨m4, e4⟩ := drewN_add w m2 m3
                rw [e4]
                go_wp2_with fail
                refine (cm _).mono ?_
                rintro e w3 ⟨rfl, m5, rfl⟩
                obtain ⟨m6, e6⟩ := drewN_add w m4 m5
                rw [e6]
                go_wp2
                go_roundw
                case rel => exact ⟨j + 1, m6, by go_num, by omega, HJ.out, rfl⟩
                case measure => simp [intOf]; omega
              · have HF := Lib.hid (HNS.out fun h => hm0 h.2)
                have fj : decide (zj < 0) = false := by simp; omega
                have fm : decide (zm < 0) = true := by simp; omega
                clear hj0 hm0
                go_wp2_with fail
                refine (cj _).mono ?_
                rintro e w3 ⟨rfl, m3, rfl⟩
                obtain ⟨m4, e4⟩ := drewN_add w m2 m3
                rw [e4]
                go_wp2_with fail
                refine (cm _).mono ?_
                rintro e w3 ⟨rfl, m5, rfl⟩
                obtain ⟨m6, e6⟩ := drewN_add w m4 m5
                rw [e6]
                go_wp2
                go_ret
                exact ⟨ret_bool HF.out.symm, m6, rfl⟩
            · have HF := Lib.hid (HNS.out fun h => hj0 h.1)
              have fj : decide (zj < 0) = true := by simp; omega
              clear hj0
              go_wp2_with fail
              refine (cj _).mono ?_
              rintro e w3 ⟨rfl, m3, rfl⟩
              obtain ⟨m4, e4⟩ := drewN_add w m2 m3
              rw [e4]
              go_wp2
              go_ret
              exact ⟨ret_bool HF.out.symm, m4, rfl⟩
          · obtain rfl : j = k := by omega
            have HN := Lib.hid (show SoundTo n R (j + 1) from fun a ha => by
              by_cases e : a = j
              · subst e; exact ⟨HY.out, HS2.out⟩
              · exact HS.out a (by omega))
            go_wp2
            go_roundw
            case rel => exact ⟨j + 1, m2, by go_num, by omega, HN.out, rfl⟩
            case measure => simp [intOf]; omega
      · have HF := Lib.hid (show decide (Sound n R) = false from decide_eq_false fun hs => ho (HO.out.2 fun y hy h1 h2 => (hs.1 k hkn y hy h1 h2).symm))
        have hne : (bits BinOp.and IntKind.u64 (upF n R k : Int) (upF n (flipR R) k : Int) != ((2 ^ k : Nat) : Int)) = true := by
          rw [hand, bne_iff_ne]; intro e; exact ho (by omega)
        generalize upF n R k = u1 at *
        generalize upF n (flipR R) k = u2 at *
        generalize 2 ^ k = pw at *
        clear hand ho
        go_wp2_with fail
        go_quiet ((go_at_call 26; exact (c1 _).mono (fun _ _ h => ⟨h.1, _, h.2⟩)))
        go_wp2
        go_ret
        exact ⟨ret_bool HF.out.symm, drewN_add _ _ _⟩
    · obtain rfl : k = n := by omega
      have HF := Lib.hid (show decide (Sound k R) = true from decide_eq_true (sound_of_to HH.out.refl HS.out))
      go_wp2
      go_ret
      exact ⟨ret_bool HF.out.symm, m, rfl⟩

end Go.Proofs.YtmmdjbbbjlkmoaaDoor
