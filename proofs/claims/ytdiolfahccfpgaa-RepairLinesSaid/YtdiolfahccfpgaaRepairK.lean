/-
  RepairFolds' walk.
-/
import Derived.Test.YtdiolfahccfpgaaRepairJ
namespace Go.Proofs.Ytdiolfahccfpgaa
open Go.RowKit
set_option linter.unusedSimpArgs false
set_option linter.unusedVariables false

def lst (s : ByteArray) : List UInt8 := s.data.toList
theorem conv_one (w : World) (v : Int) (h0 : 0 ≤ v) (h1 : v < 256) :
    (convert 32 9 (.slice (some ⟨w.heap.size, 0, none⟩) 1 1)).run Try.prog (w.alloc (.cells #[.int .u8 v] 5)) = .ok (.string ⟨#[v.toNat.toUInt8]⟩) (w.alloc (.cells #[.int .u8 v] 5)) := by
  have hc : (w.alloc (.cells #[.int .u8 v] 5)).cell? ⟨w.heap.size, 0, none⟩ = some (.int .u8 v) := by go_simp
  exact run_convert_bytes_back (w.alloc (.cells #[.int .u8 v] 5)) 32 9 5 ⟨w.heap.size, 0, none⟩ 1 [v.toNat.toUInt8] Try.underlying32 Try.underlying5 Try.underlying9 (fun j hj => by
    simp only [List.length_cons, List.length_nil] at hj
    obtain rfl : j = 0 := by omega
    have e : ((v.toNat.toUInt8).toNat : Int) = v := by rw [Go.Proofs.Ytdiolfahccfpgaa.u8 _ (by omega)]; omega
    show _ = some (Value.int .u8 ((v.toNat.toUInt8).toNat : Int))
    rw [e]
    simp [Addr.add])
theorem lst_push (B : ByteArray) (c : UInt8) : lst (B ++ ⟨#[c]⟩) = lst B ++ [c] := by simp [lst, ByteArray.data_append]
theorem lst_blanks (B : ByteArray) (k : Nat) : lst (B ++ (ByteArray.mk #[32, 9, 194, 160]).extract 0 (2 + k % 2 * 2)) = lst B ++ blanks k := by
  have : k % 2 = 0 ∨ k % 2 = 1 := by omega
  unfold lst blanks
  rw [ByteArray.data_append, Array.toList_append]
  rcases this with h | h <;> rw [h] <;> rfl
theorem lst_app (B C : ByteArray) : lst (B ++ C) = lst B ++ lst C := by simp [lst, ByteArray.data_append]
theorem app_size (B C : ByteArray) : (B ++ C).size = B.size + C.size := ByteArray.size_append

def OutRel (w0 : World) (k : Nat) (a want n : Value) (wr : World) : Prop :=
  ∃ (A Wn : ByteArray) (m : Nat), a = .string A ∧ want = .string Wn ∧ n = .int .i64 m ∧ m ≤ 30 * k ∧ A.size ≤ 34 * k ∧ Wn.size ≤ 31 * k ∧ Inv (lst A) (lst Wn) (decide (0 < k)) ∧ Below w0.heap.size w0 wr

set_option maxHeartbeats 4000000 in
set_option maxRecDepth 100000 in
theorem repairFolds_walk (w : World) (A0 : Option Addr) (c0 : Nat) (z0 : List ByteArray) (r0 : RowOf w A0 c0 (z0.map Value.string)) (w0 : ∀ s ∈ z0, s.size ≤ maxLen) (A1 : Option Addr) (c1 : Nat) (z1 : List Bool) (r1 : RowOf w A1 c1 (z1.map Value.bool)) :
    Calls Try.prog 7 #[.slice A0 z0.length c0, .slice A1 z1.length c1] w fun e w' => e = .returned (.bool true) ∧ Below w.heap.size w w' := by
  have hm0 : z0.length ≤ maxLen := by have := r0.1; have := r0.2.1; simp at *; omega
  have hm1 : z1.length ≤ maxLen := by have := r1.1; have := r1.2.1; simp at *; omega
  unfold maxLen at hm0 hm1
  by_cases hl : 20 < z0.length
  · clear r0 r1 w0
    go_enter Try.func7, Try.ntmps7
    go_wp2_with (go_at_call 8; refine (alive_any _).mono ?_; rintro e w3 ⟨rfl, b1⟩)
    go_ret
    exact ⟨rfl, by assumption⟩
  · by_cases hl1 : 40 < z1.length
    · clear r0 r1 w0
      go_enter Try.func7, Try.ntmps7
      go_wp2_with (go_at_call 8; refine (alive_any _).mono ?_; rintro e w3 ⟨rfl, b1⟩)
      go_ret
      exact ⟨rfl, by assumption⟩
    · have R0 := Lib.hid r0
      have R1 := Lib.hid r1
      have W0 := Lib.hid w0
      clear r0 r1 w0
      go_enter Try.func7, Try.ntmps7
      go_wp2_with fail
      refine (alive_any _).mono ?_
      rintro e W1 ⟨rfl, b1⟩
      have R0 := Lib.hid (R0.out.below b1)
      have R1 := Lib.hid (R1.out.below b1)
      go_wp2_with fail
      go_loopw [5, 6, 7, 27] (fun a want n i wr => ∃ k : Nat, k ≤ z0.length ∧ i = .int .i64 k ∧ OutRel W1 k a want n wr) (fun _ _ _ i _ => z0.length - (intOf i).toNat)
      case atStart => exact ⟨0, Nat.zero_le _, rfl, ⟨#[]⟩, ⟨#[]⟩, 0, rfl, rfl, rfl, Nat.zero_le _, Nat.zero_le _, Nat.zero_le _, inv_start, Below.refl _ _⟩
      case round =>
        obtain ⟨k, hk, rfl, A, Wn, m, rfl, rfl, rfl, hm, hA, hWn, hI, hbw⟩ := hrel
        have HI := Lib.hid hI
        clear hI
        by_cases hlt : k < z0.length
        · obtain ⟨b, off, hA0, hc⟩ := row_cell (R0.out.below hbw) (List.ne_nil_of_length_pos (by omega))
          subst hA0
          have hcell := hc k hlt
          have hxs : z0[k].size ≤ maxLen := W0.out _ (List.getElem_mem _)
          unfold maxLen at hxs
          clear hc
          generalize z0[k] = x at *
          by_cases hx0 : x.toList = []
          · go_wp2
            go_ret
            exact ⟨rfl, b1.trans (hbw.mono b1.size)⟩
          · have hxi : x.toList.isEmpty = false := by simpa using hx0
            by_cases h30 : 30 < x.size
            · go_wp2
              go_ret
              exact ⟨rfl, b1.trans (hbw.mono b1.size)⟩
            · have HI2 := Lib.hid (inv_in (lst x) HI.out)
              go_wp2_with fail
              clear hcell
              obtain ⟨wo, rfl⟩ : ∃ wo : World, wo = wr := ⟨_, rfl⟩
              go_loopw [5, 7, 10] (fun a n i wi => ∃ (j : Nat) (B : ByteArray), i = .int .i64 j ∧ a = .string B ∧ n = .int .i64 ((m + j : Nat) : Int) ∧ j ≤ x.size ∧ B.size = A.size + j ∧ InvIn (lst B) (lst Wn) (decide (0 < k)) (lst x) j ∧ Below W1.heap.size W1 wi) (fun _ _ i _ => x.size - (intOf i).toNat)
              case atStart => exact ⟨0, A, rfl, rfl, rfl, Nat.zero_le _, rfl, HI2.out, hbw⟩
              case round =>
                obtain ⟨j, B, rfl, rfl, rfl, hj, hB, hIn, hbi⟩ := hrel
                have HIN := Lib.hid hIn
                have HB := Lib.hid hB
                have hB2 : B.size ≤ 1000 := by omega
                clear hIn hB
                by_cases hjx : j < x.size
                · by_cases hlo : x[j].toNat < 97
                  · go_wp2
                    go_ret
                    exact ⟨rfl, b1.trans (hbi.mono b1.size)⟩
                  · by_cases hhi : 122 < x[j].toNat
                    · go_wp2
                      go_ret
                      exact ⟨rfl, b1.trans (hbi.mono b1.size)⟩
                    · by_cases hup : m + j < z1.length
                      · obtain ⟨b', off', hA1, hc'⟩ := row_cell (R1.out.below hbi) (List.ne_nil_of_length_pos (by omega))
                        subst hA1
                        have hcell' := hc' _ hup
                        clear hc'
                        cases hv : z1[m + j] with
                        | true =>
                          rw [hv] at hcell'
                          have hcv := conv_one wr ((x[j].toNat : Int) - 32) (by omega) (by omega)
                          have hst : InvIn (lst (B ++ ⟨#[UInt8.ofNat (x[j].toNat - 32)]⟩)) (lst Wn) (decide (0 < k)) (lst x) (j + 1) := by
                            rw [lst_push]
                            exact inv_step HIN.out (by simpa [lst] using hjx) _ (Or.inr (by show (x[j].toNat - 32).toUInt8.toNat + 32 = x[j].toNat; rw [Go.Proofs.Ytdiolfahccfpgaa.u8 _ (by omega)]; omega)) (by show 97 ≤ x[j].toNat; omega) (by show x[j].toNat ≤ 122; omega)
                          have HST := Lib.hid hst
                          clear hst hv
                          go_wp2
                          go_roundw
                          case rel => exact ⟨j + 1, _, by go_num, rfl, by go_num, by omega, by rw [app_size, HB.out]; rfl, HST.out, hbi.alloc (by have := hbi.size; omega) _⟩
                          case measure => simp [intOf]; omega
                        | false =>
                          rw [hv] at hcell'
                          have hcv := conv_one wr (x[j].toNat : Int) (by omega) (by omega)
                          have hst : InvIn (lst (B ++ ⟨#[x[j]]⟩)) (lst Wn) (decide (0 < k)) (lst x) (j + 1) := by
                            rw [lst_push]
                            exact inv_step HIN.out (by simpa [lst] using hjx) _ (Or.inl rfl) (by show 97 ≤ x[j].toNat; omega) (by show x[j].toNat ≤ 122; omega)
                          have HST := Lib.hid hst
                          clear hst hv
                          go_wp2
                          go_roundw
                          case rel => exact ⟨j + 1, _, by go_num, rfl, by go_num, by omega, by rw [app_size, HB.out]; rfl, HST.out, hbi.alloc (by have := hbi.size; omega) _⟩
                          case measure => simp [intOf]; omega
                      · have hcv := conv_one wr (x[j].toNat : Int) (by omega) (by omega)
                        have hst : InvIn (lst (B ++ ⟨#[x[j]]⟩)) (lst Wn) (decide (0 < k)) (lst x) (j + 1) := by
                          rw [lst_push]
                          exact inv_step HIN.out (by simpa [lst] using hjx) _ (Or.inl rfl) (by show 97 ≤ x[j].toNat; omega) (by show x[j].toNat ≤ 122; omega)
                        have HST := Lib.hid hst
                        clear hst
                        go_wp2
                        go_roundw
                        case rel => exact ⟨j + 1, _, by go_num, rfl, by go_num, by omega, by rw [app_size, HB.out]; rfl, HST.out, hbi.alloc (by have := hbi.size; omega) _⟩
                        case measure => simp [intOf]; omega
                · obtain rfl : j = x.size := by omega
                  have HE := Lib.hid (inv_end (by rw [show (lst x).length = x.size from by simp [lst]]; exact HIN.out) (by unfold lst; rw [← Lib.toList_data]; exact hx0) k)
                  have hW2 : Wn.size ≤ 620 := by omega
                  have hex : ((ByteArray.mk #[32, 9, 194, 160]).extract 0 (2 + k % 2 * 2)).size ≤ 4 := by
                    rw [ByteArray.size_extract]
                    have : (ByteArray.mk #[32, 9, 194, 160]).size = 4 := rfl
                    omega
                  by_cases hk0 : k = 0
                  · have hd : decide (0 < k) = false := by simpa using hk0
                    rw [hd] at HE
                    have HQ := Lib.hid (show Inv (lst (B ++ (ByteArray.mk #[32, 9, 194, 160]).extract 0 (2 + k % 2 * 2))) (lst (Wn ++ x)) (decide (0 < k + 1)) from by
                      rw [lst_blanks, lst_app]
                      have h2 : decide (0 < k + 1) = true := by simp
                      rw [h2]
                      simpa using HE.out)
                    have hkn : ¬ 0 < k := by omega
                    clear hd HE hk0
                    go_wp2
                    go_roundw
                    case rel => exact ⟨k + 1, by omega, by go_num, _, _, m + x.size, rfl, rfl, rfl, by omega, by rw [app_size, HB.out]; omega, by rw [app_size]; omega, HQ.out, hbi⟩
                    case measure => simp [intOf]; omega
                  · have hd : decide (0 < k) = true := by simp; omega
                    rw [hd] at HE
                    have HQ := Lib.hid (show Inv (lst (B ++ (ByteArray.mk #[32, 9, 194, 160]).extract 0 (2 + k % 2 * 2))) (lst (Wn ++ ⟨#[32]⟩ ++ x)) (decide (0 < k + 1)) from by
                      rw [lst_blanks, lst_app, lst_app]
                      have h2 : decide (0 < k + 1) = true := by simp
                      rw [h2]
                      exact HE.out)
                    have hkp : 0 < k := by omega
                    clear hd HE hk0
                    go_wp2
                    go_roundw
                    case rel => exact ⟨k + 1, by omega, by go_num, _, _, m + x.size, rfl, rfl, rfl, by omega, by rw [app_size, HB.out]; omega, by rw [app_size, app_size, show (ByteArray.mk #[32]).size = 1 from rfl]; omega, HQ.out, hbi⟩
                    case measure => simp [intOf]; omega
        · obtain rfl : k = z0.length := by omega
          have hf := foldIs A (by omega)
          have e : foldOf A = Wn := by
            unfold foldOf
            have := inv_fold HI.out
            unfold lst at this
            rw [this]
          rw [e] at hf
          clear hlt hk e
          go_wp2_with fail
          refine (hf _).mono ?_
          rintro e W2 ⟨rfl, b2⟩
          go_wp2
          go_ret
          have s1 := b1.size
          have s3 := hbw.size
          exact ⟨ret_bool (by simp), (b1.trans (hbw.mono (by omega))).trans (b2.mono (by omega))⟩

end Go.Proofs.Ytdiolfahccfpgaa
