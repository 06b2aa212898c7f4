/-
  MarkFences: a fence is closed by as many of its signs, or more, and by nothing else; the law's walk.
-/
import Derived.Test.YtbfhipdcghajeaaDoorMkB
namespace Go.Proofs.YtbfhipdcghajeaaDoor
open Go.RowKit
set_option linter.unusedSimpArgs false
set_option linter.unusedVariables false
set_option maxRecDepth 100000

/-- Bytes of a text, up to a place, are small letters. -/
def LowRel (X : ByteArray) (w : World) (i : Value) (wr : World) : Prop := ∃ k : Nat, i = .int .i64 k ∧ k ≤ X.size ∧ (∀ m (h : m < X.size), m < k → 97 ≤ X[m].toNat ∧ X[m].toNat ≤ 122) ∧ wr = w
theorem low_of {X : ByteArray} (h : ∀ m (h : m < X.size), m < X.size → 97 ≤ X[m].toNat ∧ X[m].toNat ≤ 122) : Low X.data.toList := by
  intro b hb
  obtain ⟨j, hj, rfl⟩ := List.mem_iff_getElem.1 hb
  have hs : X.data.toList.length = X.size := by simp
  exact h j (by omega) (by omega)
theorem cat_one (U : ByteArray) (x : List UInt8) : (U ++ (⟨x.toArray⟩ : ByteArray)).data.toList = U.data.toList ++ x := by simp

set_option maxHeartbeats 16000000 in
theorem markFences_tilde (w : World) (n m : Nat) (info : ByteArray) (n1 : 1 ≤ n) (n9 : n ≤ 9) (m1 : 1 ≤ m) (m12 : m ≤ 12) (h30 : info.size ≤ 30) :
    Calls Tryd.prog 7 #[.bool true, .int .i64 n, .int .i64 m, .string info] w fun e w' => e = .returned (.bool true) ∧ Below w.heap.size w w' := by
  go_enter Tryd.func7, Tryd.ntmps7
  go_wp2_with fail
  refine (alive8_any _).mono ?_
  rintro e w1 ⟨rfl, b1⟩
  go_wp2_with fail
  go_loopw [10] (fun i wr => LowRel info w1 i wr) (fun i _ => info.size - (intOf i).toNat)
  case atStart => exact ⟨0, rfl, Nat.zero_le _, fun _ _ h => absurd h (by omega), rfl⟩
  case round =>
    obtain ⟨k, rfl, hk, hlow, hwe⟩ := hrel
    have hwe := hwe.symm
    subst hwe
    by_cases hp : k < info.size
    · by_cases h97 : info[k].toNat < 97
      · have f1 : decide ((info[k].toNat : Int) < 97) = true := by simp; omega
        clear h97 hlow
        go_wp2
        go_ret
        exact ⟨rfl, b1⟩
      · have f1 : decide ((info[k].toNat : Int) < 97) = false := by simp; omega
        by_cases h122 : 122 < info[k].toNat
        · have f2 : decide ((122 : Int) < (info[k].toNat : Int)) = true := by simp; omega
          clear h97 hlow h122
          go_wp2
          go_ret
          exact ⟨rfl, b1⟩
        · have f2 : decide ((122 : Int) < (info[k].toNat : Int)) = false := by simp; omega
          have HL := Lib.hid (show ∀ m (h : m < info.size), m < k + 1 → 97 ≤ info[m].toNat ∧ info[m].toNat ≤ 122 from by
            intro m hm hmk
            by_cases e : m = k
            · subst e; exact ⟨by omega, by omega⟩
            · exact hlow m hm (by omega))
          clear h97 hlow h122
          go_wp2
          exact ⟨⟨k + 1, by go_num, by omega, HL.out, rfl⟩, by simp [intOf]; omega⟩
    · obtain rfl : k = info.size := by omega
      have HLow := Lib.hid (low_of hlow)
      clear hlow
      go_wp2_with fail
      go_loopw [11, 13] (fun v i wr => RepRel [] 126 n w1 v i wr) (fun _ i _ => n - (intOf i).toNat)
      case atStart => exact ⟨0, ⟨#[]⟩, rfl, Nat.zero_le _, rfl, rfl, rfl⟩
      case round =>
        obtain ⟨k, U, rfl, hk, rfl, hU, hwe⟩ := hrel
        have hwe := hwe.symm
        subst hwe
        have hsz := text_size hU
        simp only [List.nil_append, List.length_replicate] at hsz
        by_cases hp : k < n
        · have HST := Lib.hid (rep_step hU)
          clear hU
          go_wp2
          exact ⟨⟨k + 1, _, by go_num, by omega, rfl, HST.out, rfl⟩, by simp [intOf]; omega⟩
        · obtain rfl : k = n := by omega
          have HU := Lib.hid hU
          clear hU
          go_wp2_with fail
          go_loopw [12, 14] (fun v i wr => RepRel [] 126 m w1 v i wr) (fun _ i _ => m - (intOf i).toNat)
          case atStart => exact ⟨0, ⟨#[]⟩, rfl, Nat.zero_le _, rfl, rfl, rfl⟩
          case round =>
            obtain ⟨j, B, rfl, hj, rfl, hB, hwe⟩ := hrel
            have hwe := hwe.symm
            subst hwe
            have hszB := text_size hB
            simp only [List.nil_append, List.length_replicate] at hszB
            by_cases hp2 : j < m
            · have HST := Lib.hid (rep_step hB)
              clear hB
              go_wp2
              exact ⟨⟨j + 1, _, by go_num, by omega, rfl, HST.out, rfl⟩, by simp [intOf]; omega⟩
            · obtain rfl : j = m := by omega
              have hz1 : (U ++ (⟨#[32]⟩ : ByteArray)).size ≤ 10 := by rw [ByteArray.size_append]; show _ + 1 ≤ _; omega
              have c1 := fun w1 => mkFence_any ((U ++ (⟨#[32]⟩ : ByteArray)) ++ info) w1 (by rw [ByteArray.size_append]; omega)
              have c2 := fun w1 => mkCloses_any (B ++ (⟨#[32, 32]⟩ : ByteArray)) 126 (by decide) k w1 (by rw [ByteArray.size_append]; show _ + 2 ≤ _; omega)
              have c3 := fun w1 => mkCloses_any (B ++ (⟨#[120]⟩ : ByteArray)) 126 (by decide) k w1 (by rw [ByteArray.size_append]; show _ + 1 ≤ _; omega)
              rw [cat_two U info [32], HU.out, List.nil_append, List.append_assoc, List.singleton_append, mkFence_made n1 (by decide) HLow.out] at c1
              rw [cat_one B [32, 32], hB, List.nil_append, mkCloses_same m1 (by decide) rfl, show ([32, 32] : List UInt8).all isGap = true from rfl, Bool.and_true] at c2
              rw [cat_one B [120], hB, List.nil_append, mkCloses_same m1 (by decide) rfl, show ([120] : List UInt8).all isGap = false from rfl, Bool.and_false] at c3
              have k1 := fun W => run_string_add_sum (P := Tryd.prog) W U (⟨#[32]⟩ : ByteArray) (by show _ + 1 ≤ _; omega)
              have k2 := fun W => run_string_add_sum (P := Tryd.prog) W (U ++ (⟨#[32]⟩ : ByteArray)) info (by omega)
              have k3 := fun W => run_string_add_sum (P := Tryd.prog) W B (⟨#[32, 32]⟩ : ByteArray) (by show _ + 2 ≤ _; omega)
              have k4 := fun W => run_string_add_sum (P := Tryd.prog) W B (⟨#[120]⟩ : ByteArray) (by show _ + 1 ≤ _; omega)
              have hmx : max (k : Int) 1 = (k : Int) := by omega
              rw [hmx] at c2
              clear hB hsz hszB hmx
              have hfin : ∀ q : Bool, decide ((k : Int) ≤ (j : Int)) = q → (∀ w1, Calls Tryd.prog 18 #[.string (B ++ (⟨#[32, 32]⟩ : ByteArray)), .int .u8 126, .int .i64 k] w1 fun e w' => e = .returned (.bool q) ∧ Below w1.heap.size w1 w') := by
                intro q hq w1
                rw [← hq]
                exact c2 w1
              have hf3 : ∀ w1, Calls Tryd.prog 18 #[.string (B ++ (⟨#[120]⟩ : ByteArray)), .int .u8 126, .int .i64 k] w1 fun e w' => e = .returned (.bool false) ∧ Below w1.heap.size w1 w' := c3
              clear c2 c3
              by_cases h3 : k < 3
              · have f3 : decide ((3 : Int) ≤ (k : Int)) = false := by simp; omega
                rw [if_pos h3] at c1
                unfold mkFenceV at c1
                dsimp only at c1
                clear h3
                by_cases hkj : (k : Int) ≤ (j : Int)
                · have f4 : decide ((k : Int) ≤ (j : Int)) = true := by simpa using hkj
                  have c2 := hfin true f4
                  have g4 : k ≤ j := by omega
                  have g5 : decide (k ≤ j) = true := by simpa using g4
                  clear hfin hkj
                  go_wp2_with fail
                  refine (c1 _).mono ?_
                  rintro e w2 ⟨rfl, b2⟩
                  go_wp2_with fail
                  refine (c2 _).mono ?_
                  rintro e w3 ⟨rfl, b3⟩
                  go_wp2_with fail
                  refine (hf3 _).mono ?_
                  rintro e w4 ⟨rfl, b4⟩
                  go_wp2
                  go_ret
                  exact ⟨rfl, ((b1.then b2).then b3).then b4⟩
                · have f4 : decide ((k : Int) ≤ (j : Int)) = false := by simpa using hkj
                  have c2 := hfin false f4
                  have g4 : j < k := by omega
                  have g5 : decide (k ≤ j) = false := by simp; omega
                  clear hfin hkj
                  go_wp2_with fail
                  refine (c1 _).mono ?_
                  rintro e w2 ⟨rfl, b2⟩
                  go_wp2_with fail
                  refine (c2 _).mono ?_
                  rintro e w3 ⟨rfl, b3⟩
                  go_wp2_with fail
                  refine (hf3 _).mono ?_
                  rintro e w4 ⟨rfl, b4⟩
                  go_wp2
                  go_ret
                  exact ⟨rfl, ((b1.then b2).then b3).then b4⟩
              · have f3 : decide ((3 : Int) ≤ (k : Int)) = true := by simp; omega
                rw [if_neg h3] at c1
                unfold mkFenceV at c1
                dsimp only at c1
                rw [Lib.mk_data] at c1
                clear h3
                by_cases hkj : (k : Int) ≤ (j : Int)
                · have f4 : decide ((k : Int) ≤ (j : Int)) = true := by simpa using hkj
                  have c2 := hfin true f4
                  have g4 : k ≤ j := by omega
                  have g5 : decide (k ≤ j) = true := by simpa using g4
                  clear hfin hkj
                  go_wp2_with fail
                  refine (c1 _).mono ?_
                  rintro e w2 ⟨rfl, b2⟩
                  go_wp2_with fail
                  refine (c2 _).mono ?_
                  rintro e w3 ⟨rfl, b3⟩
                  go_wp2_with fail
                  refine (hf3 _).mono ?_
                  rintro e w4 ⟨rfl, b4⟩
                  go_wp2
                  go_ret
                  exact ⟨rfl, ((b1.then b2).then b3).then b4⟩
                · have f4 : decide ((k : Int) ≤ (j : Int)) = false := by simpa using hkj
                  have c2 := hfin false f4
                  have g4 : j < k := by omega
                  have g5 : decide (k ≤ j) = false := by simp; omega
                  clear hfin hkj
                  go_wp2_with fail
                  refine (c1 _).mono ?_
                  rintro e w2 ⟨rfl, b2⟩
                  go_wp2_with fail
                  refine (c2 _).mono ?_
                  rintro e w3 ⟨rfl, b3⟩
                  go_wp2_with fail
                  refine (hf3 _).mono ?_
                  rintro e w4 ⟨rfl, b4⟩
                  go_wp2
                  go_ret
                  exact ⟨rfl, ((b1.then b2).then b3).then b4⟩

set_option maxHeartbeats 16000000 in
theorem markFences_back (w : World) (n m : Nat) (info : ByteArray) (n1 : 1 ≤ n) (n9 : n ≤ 9) (m1 : 1 ≤ m) (m12 : m ≤ 12) (h30 : info.size ≤ 30) :
    Calls Tryd.prog 7 #[.bool false, .int .i64 n, .int .i64 m, .string info] w fun e w' => e = .returned (.bool true) ∧ Below w.heap.size w w' := by
  go_enter Tryd.func7, Tryd.ntmps7
  go_wp2_with fail
  refine (alive8_any _).mono ?_
  rintro e w1 ⟨rfl, b1⟩
  go_wp2_with fail
  go_loopw [10] (fun i wr => LowRel info w1 i wr) (fun i _ => info.size - (intOf i).toNat)
  case atStart => exact ⟨0, rfl, Nat.zero_le _, fun _ _ h => absurd h (by omega), rfl⟩
  case round =>
    obtain ⟨k, rfl, hk, hlow, hwe⟩ := hrel
    have hwe := hwe.symm
    subst hwe
    by_cases hp : k < info.size
    · by_cases h97 : info[k].toNat < 97
      · have f1 : decide ((info[k].toNat : Int) < 97) = true := by simp; omega
        clear h97 hlow
        go_wp2
        go_ret
        exact ⟨rfl, b1⟩
      · have f1 : decide ((info[k].toNat : Int) < 97) = false := by simp; omega
        by_cases h122 : 122 < info[k].toNat
        · have f2 : decide ((122 : Int) < (info[k].toNat : Int)) = true := by simp; omega
          clear h97 hlow h122
          go_wp2
          go_ret
          exact ⟨rfl, b1⟩
        · have f2 : decide ((122 : Int) < (info[k].toNat : Int)) = false := by simp; omega
          have HL := Lib.hid (show ∀ m (h : m < info.size), m < k + 1 → 97 ≤ info[m].toNat ∧ info[m].toNat ≤ 122 from by
            intro m hm hmk
            by_cases e : m = k
            · subst e; exact ⟨by omega, by omega⟩
            · exact hlow m hm (by omega))
          clear h97 hlow h122
          go_wp2
          exact ⟨⟨k + 1, by go_num, by omega, HL.out, rfl⟩, by simp [intOf]; omega⟩
    · obtain rfl : k = info.size := by omega
      have HLow := Lib.hid (low_of hlow)
      clear hlow
      go_wp2_with fail
      go_loopw [11, 13] (fun v i wr => RepRel [] 96 n w1 v i wr) (fun _ i _ => n - (intOf i).toNat)
      case atStart => exact ⟨0, ⟨#[]⟩, rfl, Nat.zero_le _, rfl, rfl, rfl⟩
      case round =>
        obtain ⟨k, U, rfl, hk, rfl, hU, hwe⟩ := hrel
        have hwe := hwe.symm
        subst hwe
        have hsz := text_size hU
        simp only [List.nil_append, List.length_replicate] at hsz
        by_cases hp : k < n
        · have HST := Lib.hid (rep_step hU)
          clear hU
          go_wp2
          exact ⟨⟨k + 1, _, by go_num, by omega, rfl, HST.out, rfl⟩, by simp [intOf]; omega⟩
        · obtain rfl : k = n := by omega
          have HU := Lib.hid hU
          clear hU
          go_wp2_with fail
          go_loopw [12, 14] (fun v i wr => RepRel [] 96 m w1 v i wr) (fun _ i _ => m - (intOf i).toNat)
          case atStart => exact ⟨0, ⟨#[]⟩, rfl, Nat.zero_le _, rfl, rfl, rfl⟩
          case round =>
            obtain ⟨j, B, rfl, hj, rfl, hB, hwe⟩ := hrel
            have hwe := hwe.symm
            subst hwe
            have hszB := text_size hB
            simp only [List.nil_append, List.length_replicate] at hszB
            by_cases hp2 : j < m
            · have HST := Lib.hid (rep_step hB)
              clear hB
              go_wp2
              exact ⟨⟨j + 1, _, by go_num, by omega, rfl, HST.out, rfl⟩, by simp [intOf]; omega⟩
            · obtain rfl : j = m := by omega
              have hz1 : (U ++ (⟨#[32]⟩ : ByteArray)).size ≤ 10 := by rw [ByteArray.size_append]; show _ + 1 ≤ _; omega
              have c1 := fun w1 => mkFence_any ((U ++ (⟨#[32]⟩ : ByteArray)) ++ info) w1 (by rw [ByteArray.size_append]; omega)
              have c2 := fun w1 => mkCloses_any (B ++ (⟨#[32, 32]⟩ : ByteArray)) 96 (by decide) k w1 (by rw [ByteArray.size_append]; show _ + 2 ≤ _; omega)
              have c3 := fun w1 => mkCloses_any (B ++ (⟨#[120]⟩ : ByteArray)) 96 (by decide) k w1 (by rw [ByteArray.size_append]; show _ + 1 ≤ _; omega)
              rw [cat_two U info [32], HU.out, List.nil_append, List.append_assoc, List.singleton_append, mkFence_made n1 (by decide) HLow.out] at c1
              rw [cat_one B [32, 32], hB, List.nil_append, mkCloses_same m1 (by decide) rfl, show ([32, 32] : List UInt8).all isGap = true from rfl, Bool.and_true] at c2
              rw [cat_one B [120], hB, List.nil_append, mkCloses_same m1 (by decide) rfl, show ([120] : List UInt8).all isGap = false from rfl, Bool.and_false] at c3
              have k1 := fun W => run_string_add_sum (P := Tryd.prog) W U (⟨#[32]⟩ : ByteArray) (by show _ + 1 ≤ _; omega)
              have k2 := fun W => run_string_add_sum (P := Tryd.prog) W (U ++ (⟨#[32]⟩ : ByteArray)) info (by omega)
              have k3 := fun W => run_string_add_sum (P := Tryd.prog) W B (⟨#[32, 32]⟩ : ByteArray) (by show _ + 2 ≤ _; omega)
              have k4 := fun W => run_string_add_sum (P := Tryd.prog) W B (⟨#[120]⟩ : ByteArray) (by show _ + 1 ≤ _; omega)
              have hmx : max (k : Int) 1 = (k : Int) := by omega
              rw [hmx] at c2
              clear hB hsz hszB hmx
              have hfin : ∀ q : Bool, decide ((k : Int) ≤ (j : Int)) = q → (∀ w1, Calls Tryd.prog 18 #[.string (B ++ (⟨#[32, 32]⟩ : ByteArray)), .int .u8 96, .int .i64 k] w1 fun e w' => e = .returned (.bool q) ∧ Below w1.heap.size w1 w') := by
                intro q hq w1
                rw [← hq]
                exact c2 w1
              have hf3 : ∀ w1, Calls Tryd.prog 18 #[.string (B ++ (⟨#[120]⟩ : ByteArray)), .int .u8 96, .int .i64 k] w1 fun e w' => e = .returned (.bool false) ∧ Below w1.heap.size w1 w' := c3
              clear c2 c3
              by_cases h3 : k < 3
              · have f3 : decide ((3 : Int) ≤ (k : Int)) = false := by simp; omega
                rw [if_pos h3] at c1
                unfold mkFenceV at c1
                dsimp only at c1
                clear h3
                by_cases hkj : (k : Int) ≤ (j : Int)
                · have f4 : decide ((k : Int) ≤ (j : Int)) = true := by simpa using hkj
                  have c2 := hfin true f4
                  have g4 : k ≤ j := by omega
                  have g5 : decide (k ≤ j) = true := by simpa using g4
                  clear hfin hkj
                  go_wp2_with fail
                  refine (c1 _).mono ?_
                  rintro e w2 ⟨rfl, b2⟩
                  go_wp2_with fail
                  refine (c2 _).mono ?_
                  rintro e w3 ⟨rfl, b3⟩
                  go_wp2_with fail
                  refine (hf3 _).mono ?_
                  rintro e w4 ⟨rfl, b4⟩
                  go_wp2
                  go_ret
                  exact ⟨rfl, ((b1.then b2).then b3).then b4⟩
                · have f4 : decide ((k : Int) ≤ (j : Int)) = false := by simpa using hkj
                  have c2 := hfin false f4
                  have g4 : j < k := by omega
                  have g5 : decide (k ≤ j) = false := by simp; omega
                  clear hfin hkj
                  go_wp2_with fail
                  refine (c1 _).mono ?_
                  rintro e w2 ⟨rfl, b2⟩
                  go_wp2_with fail
                  refine (c2 _).mono ?_
                  rintro e w3 ⟨rfl, b3⟩
                  go_wp2_with fail
                  refine (hf3 _).mono ?_
                  rintro e w4 ⟨rfl, b4⟩
                  go_wp2
                  go_ret
                  exact ⟨rfl, ((b1.then b2).then b3).then b4⟩
              · have f3 : decide ((3 : Int) ≤ (k : Int)) = true := by simp; omega
                rw [if_neg h3] at c1
                unfold mkFenceV at c1
                dsimp only at c1
                rw [Lib.mk_data] at c1
                clear h3
                by_cases hkj : (k : Int) ≤ (j : Int)
                · have f4 : decide ((k : Int) ≤ (j : Int)) = true := by simpa using hkj
                  have c2 := hfin true f4
                  have g4 : k ≤ j := by omega
                  have g5 : decide (k ≤ j) = true := by simpa using g4
                  clear hfin hkj
                  go_wp2_with fail
                  refine (c1 _).mono ?_
                  rintro e w2 ⟨rfl, b2⟩
                  go_wp2_with fail
                  refine (c2 _).mono ?_
                  rintro e w3 ⟨rfl, b3⟩
                  go_wp2_with fail
                  refine (hf3 _).mono ?_
                  rintro e w4 ⟨rfl, b4⟩
                  go_wp2
                  go_ret
                  exact ⟨rfl, ((b1.then b2).then b3).then b4⟩
                · have f4 : decide ((k : Int) ≤ (j : Int)) = false := by simpa using hkj
                  have c2 := hfin false f4
                  have g4 : j < k := by omega
                  have g5 : decide (k ≤ j) = false := by simp; omega
                  clear hfin hkj
                  go_wp2_with fail
                  refine (c1 _).mono ?_
                  rintro e w2 ⟨rfl, b2⟩
                  go_wp2_with fail
                  refine (c2 _).mono ?_
                  rintro e w3 ⟨rfl, b3⟩
                  go_wp2_with fail
                  refine (hf3 _).mono ?_
                  rintro e w4 ⟨rfl, b4⟩
                  go_wp2
                  go_ret
                  exact ⟨rfl, ((b1.then b2).then b3).then b4⟩

theorem markFences_walk (w : World) (a0 : Bool) (a1 : Int) (w1 : (Lit.int .i64 a1).wf = true) (a2 : Int) (w2 : (Lit.int .i64 a2).wf = true) (a3 : ByteArray) (w3 : a3.size ≤ maxLen) :
    Calls Tryd.prog 7 #[.bool a0, .int .i64 a1, .int .i64 a2, .string a3] w fun e w' => e = .returned (.bool true) ∧ Below w.heap.size w w' := by
  unfold maxLen at w3
  have hw1 : -9223372036854775808 ≤ a1 ∧ a1 ≤ 9223372036854775807 := by simpa [Lit.wf, IntKind.min, IntKind.max, IntKind.signed, IntKind.bits] using w1
  have hw2 : -9223372036854775808 ≤ a2 ∧ a2 ≤ 9223372036854775807 := by simpa [Lit.wf, IntKind.min, IntKind.max, IntKind.signed, IntKind.bits] using w2
  by_cases h : 1 ≤ a1 ∧ a1 ≤ 9 ∧ 1 ≤ a2 ∧ a2 ≤ 12 ∧ a3.size ≤ 30
  · obtain ⟨h1, h2, h3, h4, h5⟩ := h
    cases a0 with
    | true =>
      have := markFences_tilde w a1.toNat a2.toNat a3 (by omega) (by omega) (by omega) (by omega) h5
      rw [show ((a1.toNat : Nat) : Int) = a1 from by omega, show ((a2.toNat : Nat) : Int) = a2 from by omega] at this
      exact this
    | false =>
      have := markFences_back w a1.toNat a2.toNat a3 (by omega) (by omega) (by omega) (by omega) h5
      rw [show ((a1.toNat : Nat) : Int) = a1 from by omega, show ((a2.toNat : Nat) : Int) = a2 from by omega] at this
      exact this
  · have hor : a1 < 1 ∨ (1 ≤ a1 ∧ 9 < a1) ∨ (1 ≤ a1 ∧ a1 ≤ 9 ∧ a2 < 1) ∨ (1 ≤ a1 ∧ a1 ≤ 9 ∧ 1 ≤ a2 ∧ 12 < a2) ∨ (1 ≤ a1 ∧ a1 ≤ 9 ∧ 1 ≤ a2 ∧ a2 ≤ 12 ∧ 30 < a3.size) := by omega
    clear h w1 w2 hw1 hw2
    rcases hor with h | ⟨h, h2⟩ | ⟨h, h2, h3⟩ | ⟨h, h2, h3, h4⟩ | ⟨h, h2, h3, h4, h5⟩
    all_goals
      go_enter Tryd.func7, Tryd.ntmps7
      go_wp2_with (go_at_call 10; refine (alive8_any _).mono ?_; rintro e w3 ⟨rfl, b2⟩)
      go_ret
      exact ⟨rfl, b2⟩

end Go.Proofs.YtbfhipdcghajeaaDoor
