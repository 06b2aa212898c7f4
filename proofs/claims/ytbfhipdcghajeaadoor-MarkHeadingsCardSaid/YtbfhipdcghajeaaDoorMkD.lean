/-
  MarkHeadings: a heading of one to six signs has its text, without blanks, and without signs at its end; the law's walk.
-/
import Derived.Test.YtbfhipdcghajeaaDoorMkC
namespace Go.Proofs.YtbfhipdcghajeaaDoor
open Go.RowKit
set_option linter.unusedSimpArgs false
set_option linter.unusedVariables false
set_option maxRecDepth 100000

theorem hd_one (V a : ByteArray) : (V ++ ((⟨#[32]⟩ : ByteArray) ++ a)).data.toList = V.data.toList ++ 32 :: a.data.toList := by simp

set_option maxHeartbeats 16000000 in
theorem markHeadings_short (w : World) (n m bl : Nat) (a : ByteArray) (n1 : 1 ≤ n) (n9 : n ≤ 9) (m9 : m ≤ 9) (h3 : bl ≤ 3) (h40 : a.size ≤ 40) :
    Calls Tryd.prog 4 #[.int .i64 n, .int .i64 m, .int .i64 bl, .string a] w fun e w' => e = .returned (.bool true) ∧ Below w.heap.size w w' := by
  go_enter Tryd.func4, Tryd.ntmps4
  go_wp2_with fail
  refine (alive8_any _).mono ?_
  rintro e w1 ⟨rfl, b1⟩
  go_wp2_with fail
  go_loopw [9] (fun i wr => LowRel a w1 i wr) (fun i _ => a.size - (intOf i).toNat)
  case atStart => exact ⟨0, rfl, Nat.zero_le _, fun _ _ h => absurd h (by omega), rfl⟩
  case round =>
    obtain ⟨k, rfl, hk, hlow, hwe⟩ := hrel
    have hwe := hwe.symm
    subst hwe
    by_cases hp : k < a.size
    · by_cases h97 : a[k].toNat < 97
      · have f1 : decide ((a[k].toNat : Int) < 97) = true := by simp; omega
        clear h97 hlow
        go_wp2
        go_ret
        exact ⟨rfl, b1⟩
      · have f1 : decide ((a[k].toNat : Int) < 97) = false := by simp; omega
        by_cases h122 : 122 < a[k].toNat
        · have f2 : decide ((122 : Int) < (a[k].toNat : Int)) = true := by simp; omega
          clear h97 hlow h122
          go_wp2
          go_ret
          exact ⟨rfl, b1⟩
        · have f2 : decide ((122 : Int) < (a[k].toNat : Int)) = false := by simp; omega
          have HL := Lib.hid (show ∀ m (h : m < a.size), m < k + 1 → 97 ≤ a[m].toNat ∧ a[m].toNat ≤ 122 from by
            intro m hm hmk
            by_cases e : m = k
            · subst e; exact ⟨by omega, by omega⟩
            · exact hlow m hm (by omega))
          clear h97 hlow h122
          go_wp2
          exact ⟨⟨k + 1, by go_num, by omega, HL.out, rfl⟩, by simp [intOf]; omega⟩
    · obtain rfl : k = a.size := by omega
      have HLow := Lib.hid (low_of hlow)
      clear hlow
      go_wp2_with fail
      go_loopw [10, 11] (fun v i wr => RepRel [] 32 bl w1 v i wr) (fun _ i _ => bl - (intOf i).toNat)
      case atStart => exact ⟨0, ⟨#[]⟩, rfl, Nat.zero_le _, rfl, rfl, rfl⟩
      case round =>
        obtain ⟨k, U, rfl, hk, rfl, hU, hwe⟩ := hrel
        have hwe := hwe.symm
        subst hwe
        have hsz := text_size hU
        simp only [List.nil_append, List.length_replicate] at hsz
        by_cases hp : k < bl
        · have HST := Lib.hid (rep_step hU)
          clear hU
          go_wp2
          exact ⟨⟨k + 1, _, by go_num, by omega, rfl, HST.out, rfl⟩, by simp [intOf]; omega⟩
        · obtain rfl : k = bl := by omega
          have HU := Lib.hid hU
          clear hU
          go_wp2_with fail
          go_loopw [10, 12] (fun v i wr => RepRel (List.replicate k 32) 35 n w1 v i wr) (fun _ i _ => n - (intOf i).toNat)
          case atStart => exact ⟨0, _, rfl, Nat.zero_le _, rfl, by rw [HU.out]; simp, rfl⟩
          case round =>
            obtain ⟨j, V, rfl, hj, rfl, hV, hwe⟩ := hrel
            have hwe := hwe.symm
            subst hwe
            have hszV := text_size hV
            simp only [List.length_append, List.length_replicate] at hszV
            by_cases hp2 : j < n
            · have HST := Lib.hid (rep_step hV)
              clear hV
              go_wp2
              exact ⟨⟨j + 1, _, by go_num, by omega, rfl, HST.out, rfl⟩, by simp [intOf]; omega⟩
            · obtain rfl : j = n := by omega
              have hS : (V ++ ((⟨#[32]⟩ : ByteArray) ++ a)).data.toList = List.replicate k 32 ++ (List.replicate j 35 ++ 32 :: a.data.toList) := by rw [hd_one, hV, List.append_assoc]
              have z0 : ((⟨#[32]⟩ : ByteArray) ++ a).size ≤ 41 := by rw [ByteArray.size_append]; show 1 + _ ≤ _; omega
              have k0 := fun W => run_string_add_sum (P := Tryd.prog) W (⟨#[32]⟩ : ByteArray) a (by show 1 + _ ≤ _; omega)
              have k1 := fun W => run_string_add_sum (P := Tryd.prog) W V ((⟨#[32]⟩ : ByteArray) ++ a) (by omega)
              have z1 : (V ++ ((⟨#[32]⟩ : ByteArray) ++ a)).size ≤ 54 := by rw [ByteArray.size_append]; omega
              have hal : a.data.toList.length = a.size := by simp
              generalize hSS : V ++ ((⟨#[32]⟩ : ByteArray) ++ a) = S at *
              have HS := Lib.hid hS
              have HSS := Lib.hid hSS
              clear hV hszV hsz hS
              by_cases hm : 0 < m ∧ 0 < a.size
              · obtain ⟨hm0, ha0⟩ := hm
                have f0 : decide ((0 : Int) < (m : Int)) = true := by simp; omega
                have hne := toList_empty ha0
                have k2 := fun W => run_string_add_sum (P := Tryd.prog) W S (⟨#[32]⟩ : ByteArray) (by show _ + 1 ≤ _; omega)
                have z2 : (S ++ (⟨#[32]⟩ : ByteArray)).size ≤ 55 := by rw [ByteArray.size_append]; show _ + 1 ≤ _; omega
                have HS2 := Lib.hid (show (S ++ (⟨#[32]⟩ : ByteArray)).data.toList = List.replicate k 32 ++ (List.replicate j 35 ++ 32 :: a.data.toList) ++ [32] from by rw [cat_one S [32], HS.out])
                have HAN := Lib.hid (show a.data.toList ≠ [] from fun e => by rw [e] at hal; simp at hal; omega)
                clear hal
                go_wp2_with fail
                go_loopw [10, 13] (fun v i wr => RepRel (List.replicate k 32 ++ (List.replicate j 35 ++ 32 :: a.data.toList) ++ [32]) 35 m w1 v i wr) (fun _ i _ => m - (intOf i).toNat)
                case atStart => exact ⟨0, _, rfl, Nat.zero_le _, rfl, by rw [HS2.out]; simp, rfl⟩
                case round =>
                  obtain ⟨p, Y, rfl, hp, rfl, hY, hwe⟩ := hrel
                  have hwe := hwe.symm
                  subst hwe
                  have hszY := text_size hY
                  simp only [List.length_append, List.length_replicate, List.length_cons, List.length_nil] at hszY
                  have hal : a.data.toList.length = a.size := by simp
                  rw [hal] at hszY
                  have hszY2 : Y.size ≤ 64 := by omega
                  clear hszY hal
                  by_cases hp3 : p < m
                  · have HST := Lib.hid (rep_step hY)
                    clear hY
                    go_wp2
                    exact ⟨⟨p + 1, _, by go_num, by omega, rfl, HST.out, rfl⟩, by simp [intOf]; omega⟩
                  · obtain rfl : p = m := by omega
                    have c1 := fun w1 => mkHeading_any (Y ++ (⟨#[32, 32]⟩ : ByteArray)) w1 (by rw [ByteArray.size_append]; show _ + 2 ≤ _; omega)
                    have k3 := fun W => run_string_add_sum (P := Tryd.prog) W Y (⟨#[32, 32]⟩ : ByteArray) (by show _ + 2 ≤ _; omega)
                    have ht : (Y ++ (⟨#[32, 32]⟩ : ByteArray)).data.toList = List.replicate k 32 ++ (List.replicate j 35 ++ 32 :: (a.data.toList ++ hdTail p a.data.toList ++ [32, 32])) := by
                      rw [cat_one Y [32, 32], hY]
                      unfold hdTail
                      rw [if_pos ⟨hm0, HAN.out⟩]
                      simp
                    rw [ht, mkHead_made h3 n1 HLow.out] at c1
                    clear ht hY
                    by_cases h6 : j ≤ 6
                    · have f6 : decide ((6 : Int) < (j : Int)) = false := by simp; omega
                      rw [if_pos h6] at c1
                      unfold mkHeadV at c1
                      dsimp only at c1
                      rw [Lib.mk_data] at c1
                      clear h6
                      go_wp2_with fail
                      refine (c1 _).mono ?_
                      rintro e w2 ⟨rfl, b2⟩
                      go_wp2
                      go_ret
                      exact ⟨rfl, b1.then b2⟩
                    · have f6 : decide ((6 : Int) < (j : Int)) = true := by simp; omega
                      rw [if_neg h6] at c1
                      unfold mkHeadV at c1
                      dsimp only at c1
                      clear h6
                      go_wp2_with fail
                      refine (c1 _).mono ?_
                      rintro e w2 ⟨rfl, b2⟩
                      go_wp2
                      go_ret
                      exact ⟨rfl, b1.then b2⟩
              · have c1 := fun w1 => mkHeading_any (S ++ (⟨#[32, 32]⟩ : ByteArray)) w1 (by rw [ByteArray.size_append]; show _ + 2 ≤ _; omega)
                have k3 := fun W => run_string_add_sum (P := Tryd.prog) W S (⟨#[32, 32]⟩ : ByteArray) (by show _ + 2 ≤ _; omega)
                have ht : (S ++ (⟨#[32, 32]⟩ : ByteArray)).data.toList = List.replicate k 32 ++ (List.replicate j 35 ++ 32 :: (a.data.toList ++ hdTail m a.data.toList ++ [32, 32])) := by
                  rw [cat_one S [32, 32], HS.out]
                  unfold hdTail
                  rw [if_neg (fun h => hm ⟨h.1, by
                    have := h.2
                    cases hx : a.data.toList with
                    | nil => exact absurd hx this
                    | cons b t => rw [hx] at hal; simp at hal; omega⟩)]
                  simp
                rw [ht, mkHead_made h3 n1 HLow.out] at c1
                have hor : m = 0 ∨ (0 < m ∧ a.size = 0) := by omega
                have hnil : a.size = 0 → a.toList.isEmpty = true := by
                  intro h
                  rw [ByteArray.toList_eq, List.eq_nil_of_length_eq_zero (show a.data.toList.length = 0 from by omega)]
                  rfl
                have HNil := Lib.hid hnil
                clear ht hm hal hnil
                rcases hor with rfl | ⟨hm0, ha0⟩
                · by_cases h6 : j ≤ 6
                  · have f6 : decide ((6 : Int) < (j : Int)) = false := by simp; omega
                    rw [if_pos h6] at c1
                    unfold mkHeadV at c1
                    dsimp only at c1
                    rw [Lib.mk_data] at c1
                    clear h6
                    go_wp2_with fail
                    refine (c1 _).mono ?_
                    rintro e w2 ⟨rfl, b2⟩
                    go_wp2
                    go_ret
                    exact ⟨rfl, b1.then b2⟩
                  · have f6 : decide ((6 : Int) < (j : Int)) = true := by simp; omega
                    rw [if_neg h6] at c1
                    unfold mkHeadV at c1
                    dsimp only at c1
                    clear h6
                    go_wp2_with fail
                    refine (c1 _).mono ?_
                    rintro e w2 ⟨rfl, b2⟩
                    go_wp2
                    go_ret
                    exact ⟨rfl, b1.then b2⟩
                · have f0 : decide ((0 : Int) < (m : Int)) = true := by simp; omega
                  have hne := HNil.out ha0
                  clear ha0
                  by_cases h6 : j ≤ 6
                  · have f6 : decide ((6 : Int) < (j : Int)) = false := by simp; omega
                    rw [if_pos h6] at c1
                    unfold mkHeadV at c1
                    dsimp only at c1
                    rw [Lib.mk_data] at c1
                    clear h6
                    go_wp2_with fail
                    refine (c1 _).mono ?_
                    rintro e w2 ⟨rfl, b2⟩
                    go_wp2
                    go_ret
                    exact ⟨rfl, b1.then b2⟩
                  · have f6 : decide ((6 : Int) < (j : Int)) = true := by simp; omega
                    rw [if_neg h6] at c1
                    unfold mkHeadV at c1
                    dsimp only at c1
                    clear h6
                    go_wp2_with fail
                    refine (c1 _).mono ?_
                    rintro e w2 ⟨rfl, b2⟩
                    go_wp2
                    go_ret
                    exact ⟨rfl, b1.then b2⟩

set_option maxHeartbeats 4000000 in
theorem markHeadings_walk (w : World) (a0 : Int) (w0 : (Lit.int .i64 a0).wf = true) (a1 : Int) (w1 : (Lit.int .i64 a1).wf = true) (a2 : Int) (w2 : (Lit.int .i64 a2).wf = true) (a3 : ByteArray) (w3 : a3.size ≤ maxLen) :
    Calls Tryd.prog 4 #[.int .i64 a0, .int .i64 a1, .int .i64 a2, .string a3] w fun e w' => e = .returned (.bool true) ∧ Below w.heap.size w w' := by
  unfold maxLen at w3
  have hw0 : -9223372036854775808 ≤ a0 ∧ a0 ≤ 9223372036854775807 := by simpa [Lit.wf, IntKind.min, IntKind.max, IntKind.signed, IntKind.bits] using w0
  have hw1 : -9223372036854775808 ≤ a1 ∧ a1 ≤ 9223372036854775807 := by simpa [Lit.wf, IntKind.min, IntKind.max, IntKind.signed, IntKind.bits] using w1
  have hw2 : -9223372036854775808 ≤ a2 ∧ a2 ≤ 9223372036854775807 := by simpa [Lit.wf, IntKind.min, IntKind.max, IntKind.signed, IntKind.bits] using w2
  by_cases h : 1 ≤ a0 ∧ a0 ≤ 9 ∧ 0 ≤ a1 ∧ a1 ≤ 9 ∧ 0 ≤ a2 ∧ a2 ≤ 3 ∧ a3.size ≤ 40
  · obtain ⟨h1, h2, h3, h4, h5, h6, h7⟩ := h
    have := markHeadings_short w a0.toNat a1.toNat a2.toNat a3 (by omega) (by omega) (by omega) (by omega) h7
    rw [show ((a0.toNat : Nat) : Int) = a0 from by omega, show ((a1.toNat : Nat) : Int) = a1 from by omega, show ((a2.toNat : Nat) : Int) = a2 from by omega] at this
    exact this
  · have hor : a0 < 1 ∨ (1 ≤ a0 ∧ 9 < a0) ∨ (1 ≤ a0 ∧ a0 ≤ 9 ∧ a1 < 0) ∨ (1 ≤ a0 ∧ a0 ≤ 9 ∧ 0 ≤ a1 ∧ 9 < a1) ∨ (1 ≤ a0 ∧ a0 ≤ 9 ∧ 0 ≤ a1 ∧ a1 ≤ 9 ∧ a2 < 0) ∨ (1 ≤ a0 ∧ a0 ≤ 9 ∧ 0 ≤ a1 ∧ a1 ≤ 9 ∧ 0 ≤ a2 ∧ 3 < a2) ∨ (1 ≤ a0 ∧ a0 ≤ 9 ∧ 0 ≤ a1 ∧ a1 ≤ 9 ∧ 0 ≤ a2 ∧ a2 ≤ 3 ∧ 40 < a3.size) := by omega
    clear h w0 w1 w2 hw0 hw1 hw2
    rcases hor with h | ⟨h, h2⟩ | ⟨h, h2, h3⟩ | ⟨h, h2, h3, h4⟩ | ⟨h, h2, h3, h4, h5⟩ | ⟨h, h2, h3, h4, h5, h6⟩ | ⟨h, h2, h3, h4, h5, h6, h7⟩
    all_goals
      go_enter Tryd.func4, Tryd.ntmps4
      go_wp2_with (go_at_call 10; refine (alive8_any _).mono ?_; rintro e w3 ⟨rfl, b2⟩)
      go_ret
      exact ⟨rfl, b2⟩

end Go.Proofs.YtbfhipdcghajeaaDoor
