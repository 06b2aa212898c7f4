/-
  Package target: bare, behindBlanks, Dest, Title: what each answers, in plain words.
-/
import Derived.Test.YtioolcnoiaoflaaDoorTgtC
namespace Go.Proofs.YtioolcnoiaoflaaDoor
open Go.RowKit
set_option linter.unusedSimpArgs false
set_option linter.unusedVariables false
def BareRel (s : ByteArray) (w : World) (q o z : Value) (wr : World) : Prop :=
  ∃ (k n : Nat) (bh : Bool), q = .int .i64 s.size ∧ o = .int .i64 n ∧ z = .bool bh ∧ k ≤ s.size ∧ n ≤ k ∧ wr.heap[w.heap.size]? = some (.stringIter s k) ∧ Below w.heap.size w wr ∧ bareGo (s.data.toList.drop k) n bh k = bareGo s.data.toList 0 false 0
theorem bareL_is {l : List UInt8} {i o : Nat} (h : (i, o) = bareGo l 0 false 0) : bareL l = if 0 < o then 0 else i := by
  unfold bareL; rw [← h]
set_option maxHeartbeats 4000000 in
set_option maxRecDepth 100000 in
theorem bare_any (s : ByteArray) (w : World) (hs : s.size ≤ 1099511627776) :
    Calls Tryd.prog 39 #[.string s] w fun e w' => e = .returned (.int .i64 (bareL s.data.toList)) ∧ Below w.heap.size w w' := by
  go_enter Tryd.func39, Tryd.ntmps39
  go_wp2_with fail
  go_loopw [3, 4, 5] (fun q o z wr => BareRel s w q o z wr) (fun _ _ _ wr => s.size - wr.iterPos w.heap.size)
  case atStart => exact ⟨0, 0, false, rfl, rfl, rfl, Nat.zero_le _, Nat.le_refl _, World.iter_heap w s 0, (Below.refl _ w).alloc (Nat.le_refl _) _, by simp⟩
  case round =>
    obtain ⟨k, n, bh, rfl, rfl, rfl, hk, hnk, hit, hbw, hst⟩ := hrel
    by_cases hp : k < s.size
    · have hnx : ∀ ty, (Instr.next (.pointer (some ⟨w.heap.size, 0, none⟩)) true ty).run Tryd.prog wr = _ := fun ty => Lib.run_next_any_at wr w.heap.size s k ty hit hp
      have hit2 := Lib.iterAt_heap wr w.heap.size s k (k + (Utf8.decode s k).2) hit
      have hbw2 := Lib.below_iterAt hbw (k := w.heap.size) (by omega) s (k + (Utf8.decode s k).2)
      have Hit := Lib.hid hit
      clear hit hbw
      by_cases ha : s[k].toNat < 128
      · have hd : Utf8.decode s k = (s[k].toNat, 1) := decode_ascii s k hp ha
        rw [hd] at hnx hit2 hbw2
        simp only at hnx hit2 hbw2
        clear hd
        rw [get_list s k hp] at hst
        have ch := fun w => tgHidden_any s[k].toNat w
        generalize s[k] = b at *
        by_cases hstop : tgHid b.toNat = true ∨ b.toNat = 41 ∧ n = 0 ∧ bh = false
        · rw [bareGo_stop hstop] at hst
          have HR0 := bareL_is hst
          by_cases hh : tgHid b.toNat = true
          · rw [hh] at ch
            have HC := Lib.hid ch
            by_cases hn0 : 0 < n
            · have HR := Lib.hid (show bareL s.data.toList = 0 from by rw [HR0, if_pos hn0])
              clear HR0 hst hstop hh ch
              go_wp2_with (go_at_call 47; refine (HC.out _).mono ?_; rintro e w' ⟨rfl, rfl⟩)
              go_ret
              exact ⟨by rw [HR.out]; rfl, hbw2⟩
            · have HR := Lib.hid (show bareL s.data.toList = k from by rw [HR0, if_neg hn0])
              obtain rfl : n = 0 := by omega
              clear HR0 hst hstop hh ch
              go_wp2_with (go_at_call 47; refine (HC.out _).mono ?_; rintro e w' ⟨rfl, rfl⟩)
              go_ret
              exact ⟨by rw [HR.out]; rfl, hbw2⟩
          · rcases hstop with h | ⟨h1, rfl, rfl⟩
            · exact absurd h hh
            · rw [Bool.eq_false_iff.2 hh] at ch
              have HC := Lib.hid ch
              have f1 : ((b.toNat : Int) == 41) = true := by simp; omega
              have HR := Lib.hid (show bareL s.data.toList = k from by rw [HR0]; rfl)
              clear HR0 hst hh ch h1
              go_wp2_with (go_at_call 47; refine (HC.out _).mono ?_; rintro e w' ⟨rfl, rfl⟩)
              go_ret
              exact ⟨by rw [HR.out]; rfl, hbw2⟩
        · have hh : tgHid b.toNat = false := by
            rw [← Bool.not_eq_true]; exact fun e => hstop (Or.inl e)
          rw [bareGo_on hh (fun e => hstop (Or.inr e))] at hst
          rw [hh] at ch
          have HC := Lib.hid ch
          cases bh with
          | true =>
            rw [if_pos rfl] at hst
            have HR := Lib.hid hst
            clear hst hstop hh ch
            by_cases h41 : b.toNat = 41
            · have f1 : ((b.toNat : Int) == 41) = true := by simp; omega
              by_cases hn0 : n = 0
              · subst hn0
                clear h41
                go_wp2_with (go_at_call 47; refine (HC.out _).mono ?_; rintro e w' ⟨rfl, rfl⟩)
                go_roundw
                case rel => exact ⟨k + 1, 0, false, rfl, by go_num, rfl, by omega, by omega, hit2, hbw2, HR.out⟩
                case measure => simp only [World.iterPos, hit2, Hit.out]; omega
              · have f2 : ((n : Int) == 0) = false := by simp; omega
                clear h41
                go_wp2_with (go_at_call 47; refine (HC.out _).mono ?_; rintro e w' ⟨rfl, rfl⟩)
                go_roundw
                case rel => exact ⟨k + 1, n, false, rfl, by go_num, rfl, by omega, by omega, hit2, hbw2, HR.out⟩
                case measure => simp only [World.iterPos, hit2, Hit.out]; omega
            · have f1 : ((b.toNat : Int) == 41) = false := by simp; omega
              clear h41
              go_wp2_with (go_at_call 47; refine (HC.out _).mono ?_; rintro e w' ⟨rfl, rfl⟩)
              go_roundw
              case rel => exact ⟨k + 1, n, false, rfl, by go_num, rfl, by omega, by omega, hit2, hbw2, HR.out⟩
              case measure => simp only [World.iterPos, hit2, Hit.out]; omega
          | false =>
            rw [if_neg (by simp)] at hst
            by_cases h92 : b.toNat = 92
            · rw [if_pos h92] at hst
              have HR := Lib.hid hst
              have f1 : ((b.toNat : Int) == 41) = false := by simp; omega
              have f2 : ((b.toNat : Int) == 92) = true := by simp; omega
              clear hst hstop hh ch h92
              go_wp2_with (go_at_call 47; refine (HC.out _).mono ?_; rintro e w' ⟨rfl, rfl⟩)
              go_roundw
              case rel => exact ⟨k + 1, n, true, rfl, by go_num, rfl, by omega, by omega, hit2, hbw2, HR.out⟩
              case measure => simp only [World.iterPos, hit2, Hit.out]; omega
            · rw [if_neg h92] at hst
              have f2 : ((b.toNat : Int) == 92) = false := by simp; omega
              by_cases h40 : b.toNat = 40
              · rw [if_pos h40] at hst
                have HR := Lib.hid hst
                have f1 : ((b.toNat : Int) == 41) = false := by simp; omega
                have f3 : ((b.toNat : Int) == 40) = true := by simp; omega
                clear hst hstop hh ch h92 h40
                go_wp2_with (go_at_call 47; refine (HC.out _).mono ?_; rintro e w' ⟨rfl, rfl⟩)
                go_roundw
                case rel => exact ⟨k + 1, n + 1, false, rfl, by go_num, rfl, by omega, by omega, hit2, hbw2, HR.out⟩
                case measure => simp only [World.iterPos, hit2, Hit.out]; omega
              · rw [if_neg h40] at hst
                have f3 : ((b.toNat : Int) == 40) = false := by simp; omega
                by_cases h41 : b.toNat = 41
                · rw [if_pos h41] at hst
                  have HR := Lib.hid hst
                  have f1 : ((b.toNat : Int) == 41) = true := by simp; omega
                  have hn0 : 0 < n := by
                    by_cases hz : n = 0
                    · exact absurd (Or.inr ⟨h41, hz, rfl⟩) hstop
                    · omega
                  have f4 : ((n : Int) == 0) = false := by simp; omega
                  clear hst hstop hh ch h92 h40 h41
                  go_wp2_with (go_at_call 47; refine (HC.out _).mono ?_; rintro e w' ⟨rfl, rfl⟩)
                  go_roundw
                  case rel => exact ⟨k + 1, n - 1, false, rfl, by go_num, rfl, by omega, by omega, hit2, hbw2, HR.out⟩
                  case measure => simp only [World.iterPos, hit2, Hit.out]; omega
                · rw [if_neg h41] at hst
                  have HR := Lib.hid hst
                  have f1 : ((b.toNat : Int) == 41) = false := by simp; omega
                  clear hst hstop hh ch h92 h40 h41
                  go_wp2_with (go_at_call 47; refine (HC.out _).mono ?_; rintro e w' ⟨rfl, rfl⟩)
                  go_roundw
                  case rel => exact ⟨k + 1, n, false, rfl, by go_num, rfl, by omega, by omega, hit2, hbw2, HR.out⟩
                  case measure => simp only [World.iterPos, hit2, Hit.out]; omega
      · obtain ⟨d1, d2, d3, m, hm1, hm2, hm3⟩ := rune_high s k hp (by omega)
        have hd9 := decode_max s k
        rw [hm1, bareGo_high m _ n k bh hm3 (by omega), hm2] at hst
        have HR := Lib.hid hst
        have ch := fun w => tgHidden_any (Utf8.decode s k).1 w
        rw [hidB_high (by omega)] at ch
        have HC := Lib.hid ch
        have f1 : (((Utf8.decode s k).1 : Int) == 92) = false := by simp; omega
        have f2 : (((Utf8.decode s k).1 : Int) == 40) = false := by simp; omega
        have f3 : (((Utf8.decode s k).1 : Int) == 41) = false := by simp; omega
        clear hm1 hm2 hm3 ha hst ch
        generalize (Utf8.decode s k).1 = r at *
        generalize (Utf8.decode s k).2 = d at *
        cases bh with
        | true =>
          go_wp2_with (go_at_call 47; refine (HC.out _).mono ?_; rintro e w' ⟨rfl, rfl⟩)
          go_roundw
          case rel => exact ⟨k + d, n, false, rfl, rfl, rfl, by omega, by omega, hit2, hbw2, HR.out⟩
          case measure => simp only [World.iterPos, hit2, Hit.out]; omega
        | false =>
          go_wp2_with (go_at_call 47; refine (HC.out _).mono ?_; rintro e w' ⟨rfl, rfl⟩)
          go_roundw
          case rel => exact ⟨k + d, n, false, rfl, rfl, rfl, by omega, by omega, hit2, hbw2, HR.out⟩
          case measure => simp only [World.iterPos, hit2, Hit.out]; omega
    · have hnx : ∀ ty, (Instr.next (.pointer (some ⟨w.heap.size, 0, none⟩)) true ty).run Tryd.prog wr = _ := fun ty => Lib.run_next_end_at wr w.heap.size s k ty hit hp
      obtain rfl : k = s.size := by omega
      rw [drop_all' s _ hp] at hst
      have HR := bareL_is hst
      clear hst
      by_cases hn0 : 0 < n
      · rw [if_pos hn0] at HR
        have HR2 := Lib.hid HR
        clear HR
        go_wp2
        go_ret
        exact ⟨by rw [HR2.out]; rfl, hbw⟩
      · rw [if_neg hn0] at HR
        have HR2 := Lib.hid HR
        obtain rfl : n = 0 := by omega
        clear HR
        go_wp2
        go_ret
        exact ⟨by rw [HR2.out]; rfl, hbw⟩

/-! ### behindBlanks -/

end Go.Proofs.YtioolcnoiaoflaaDoor
