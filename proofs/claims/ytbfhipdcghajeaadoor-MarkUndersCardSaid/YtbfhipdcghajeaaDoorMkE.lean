/-
  MarkUnders: a line of one sign alone is under a heading; with a blank within, or another sign, it is not; the law's walk.
-/
import Derived.Test.YtbfhipdcghajeaaDoorMkC
import Derived.Laws.BytesArg
import Derived.Laws.IdiomStrings
namespace Go.Proofs.YtbfhipdcghajeaaDoor
open Go.RowKit
set_option linter.unusedSimpArgs false
set_option linter.unusedVariables false
set_option maxRecDepth 100000

theorem conv_byte (w : World) (v : Int) (h0 : 0 ≤ v) (h1 : v ≤ 255) :
    (convert 37 9 (.slice (some ⟨w.heap.size, 0, none⟩) 1 1)).run Tryd.prog (w.alloc (.cells #[.int .u8 v] 5)) = .ok (.string ⟨#[v.toNat.toUInt8]⟩) (w.alloc (.cells #[.int .u8 v] 5)) := by
  exact run_convert_bytes_back (w.alloc (.cells #[.int .u8 v] 5)) 37 9 5 ⟨w.heap.size, 0, none⟩ 1 [v.toNat.toUInt8] Tryd.underlying37 Tryd.underlying5 Tryd.underlying9 (fun j hj => by
    simp only [List.length_cons, List.length_nil] at hj
    obtain rfl : j = 0 := by omega
    have e : ((v.toNat.toUInt8).toNat : Int) = v := by
      rw [Nat.toUInt8_eq, UInt8.toNat_ofNat']
      omega
    show _ = some (Value.int .u8 ((v.toNat.toUInt8).toNat : Int))
    rw [e]
    simp [Addr.add])
theorem conv_45 (w : World) :
    (convert 37 9 (.slice (some ⟨w.heap.size, 0, none⟩) 1 1)).run Tryd.prog (w.alloc (.cells #[.int .u8 45] 5)) = .ok (.string ⟨#[45]⟩) (w.alloc (.cells #[.int .u8 45] 5)) := conv_byte w 45 (by decide) (by decide)
theorem conv_61 (w : World) :
    (convert 37 9 (.slice (some ⟨w.heap.size, 0, none⟩) 1 1)).run Tryd.prog (w.alloc (.cells #[.int .u8 61] 5)) = .ok (.string ⟨#[61]⟩) (w.alloc (.cells #[.int .u8 61] 5)) := conv_byte w 61 (by decide) (by decide)
/-- A text that is made of one sign, again and again; the world grows. -/
def GroRel (pre : List UInt8) (c : UInt8) (n : Nat) (w : World) (v i : Value) (wr : World) : Prop := ∃ (k : Nat) (U : ByteArray), i = .int .i64 k ∧ k ≤ n ∧ v = .string U ∧ U.data.toList = pre ++ List.replicate k c ∧ Below w.heap.size w wr
theorem below_lit {w0 w : World} (h : Below w0.heap.size w0 w) (o : Obj) : Below w0.heap.size w0 (w.alloc o) := h.then ((Below.refl _ w).alloc (Nat.le_refl _) o)
theorem byte_of (v : Int) (h0 : 0 ≤ v) (h1 : v ≤ 255) : ((v.toNat.toUInt8).toNat : Int) = v := by
  rw [Nat.toUInt8_eq, UInt8.toNat_ofNat']
  omega

set_option maxHeartbeats 16000000 in
theorem markUnders_dash (w : World) (n m : Nat) (v : Int) (n1 : 1 ≤ n) (n20 : n ≤ 20) (m5 : m ≤ 5) (v0 : 0 ≤ v) (v1 : v ≤ 255) :
    Calls Tryd.prog 9 #[.int .i64 n, .int .i64 m, .bool true, .int .u8 v] w fun e w' => e = .returned (.bool true) ∧ Below w.heap.size w w' := by
  go_enter Tryd.func9, Tryd.ntmps9
  go_wp2_with fail
  refine (alive8_any _).mono ?_
  rintro e w1 ⟨rfl, b1⟩
  go_wp2_with fail
  go_loopw [11, 12] (fun z i wr => GroRel [] 45 n w1 z i wr) (fun _ i _ => n - (intOf i).toNat)
  case atStart => exact ⟨0, ⟨#[]⟩, rfl, Nat.zero_le _, rfl, rfl, Below.refl _ _⟩
  case round =>
    obtain ⟨k, S, rfl, hk, rfl, hS, hbw⟩ := hrel
    have hsz := text_size hS
    simp only [List.nil_append, List.length_replicate] at hsz
    have hcv := conv_45 wr
    have k0 := fun W => run_string_add_sum (P := Tryd.prog) W S (⟨#[45]⟩ : ByteArray) (by show _ + 1 ≤ _; omega)
    by_cases hp : k < n
    · have HST := Lib.hid (rep_step hS)
      clear hS
      go_wp2
      go_roundw
      case rel => exact ⟨k + 1, _, by go_num, by omega, rfl, HST.out, below_lit hbw _⟩
      case measure => simp [intOf]; omega
    · obtain rfl : k = n := by omega
      have HS := Lib.hid hS
      have HBW := Lib.hid (b1.then hbw)
      clear hS hbw hcv k0
      rename World => wB
      go_wp2_with fail
      go_loopw [13, 14] (fun z i wr => RepRel (List.replicate k 45) 32 m wB z i wr) (fun _ i _ => m - (intOf i).toNat)
      case atStart => exact ⟨0, _, rfl, Nat.zero_le _, rfl, by rw [HS.out]; simp, rfl⟩
      case round =>
        obtain ⟨j, T, rfl, hj, rfl, hT, hwe⟩ := hrel
        have hwe := hwe.symm
        subst hwe
        have hszT := text_size hT
        simp only [List.length_append, List.length_replicate] at hszT
        by_cases hp2 : j < m
        · have HST := Lib.hid (rep_step hT)
          clear hT
          go_wp2
          exact ⟨⟨j + 1, _, by go_num, by omega, rfl, HST.out, rfl⟩, by simp [intOf]; omega⟩
        · obtain rfl : j = m := by omega
          have z1 : (S ++ (⟨#[32]⟩ : ByteArray)).size ≤ 21 := by rw [ByteArray.size_append]; show _ + 1 ≤ _; omega
          have c1 := fun w1 => mkUnder_any T w1 (by omega)
          have c2 := fun w1 => mkUnder_any ((S ++ (⟨#[32]⟩ : ByteArray)) ++ (⟨#[45]⟩ : ByteArray)) w1 (by rw [ByteArray.size_append]; show _ + 1 ≤ _; omega)
          have c3 := fun w1 => mkUnder_any (S ++ (⟨#[v.toNat.toUInt8]⟩ : ByteArray)) w1 (by rw [ByteArray.size_append]; show _ + 1 ≤ _; omega)
          rw [hT, mkUnder_dash n1 (row_blanks (by decide) j), rep_gap, if_pos rfl] at c1
          rw [cat_two S (⟨#[45]⟩ : ByteArray) [32], HS.out, List.nil_append, List.append_assoc, show ([32] : List UInt8) ++ (⟨#[45]⟩ : ByteArray).data.toList = [32, 45] from rfl, mkUnder_dash n1 rfl, show ([32, 45] : List UInt8).all isGap = false from rfl, if_neg (by simp)] at c2
          rw [cat_one S [v.toNat.toUInt8], HS.out, List.nil_append] at c3
          have k1 := fun W => run_string_add_sum (P := Tryd.prog) W S (⟨#[32]⟩ : ByteArray) (by show _ + 1 ≤ _; omega)
          have k2 := fun W => run_string_add_sum (P := Tryd.prog) W (S ++ (⟨#[32]⟩ : ByteArray)) (⟨#[45]⟩ : ByteArray) (by show _ + 1 ≤ _; omega)
          have k3 := fun W => run_string_add_sum (P := Tryd.prog) W S (⟨#[v.toNat.toUInt8]⟩ : ByteArray) (by show _ + 1 ≤ _; omega)
          have hbo := byte_of v v0 v1
          have HCV := Lib.hid (fun W => conv_45 W)
          have HCB := Lib.hid (fun W => conv_byte W v v0 v1)
          have hor : v = 45 ∨ v = 32 ∨ v = 9 ∨ (v ≠ 45 ∧ v ≠ 32 ∧ v ≠ 9) := by omega
          have HC3 := Lib.hid c3
          clear hT hszT hsz c3
          rcases hor with hv | hv | hv | ⟨hv1, hv2, hv3⟩
          · have f1 : (v == 45) = true := by simp [hv]
            clear hbo hv HC3
            have hcv := HCV.out
            go_wp2_with fail
            refine (c1 _).mono ?_
            rintro e w2 ⟨rfl, b2⟩
            have q2 := HBW.out.then b2
            go_wp2_with fail
            refine (c2 _).mono ?_
            rintro e w3 ⟨rfl, b3⟩
            have q3 := (below_lit q2 _).then b3
            go_wp2
            go_ret
            exact ⟨rfl, q3⟩
          · have f1 : (v == 45) = false := by simp [hv]
            have f2 : (v == 32) = true := by simp [hv]
            clear hbo hv HC3
            have hcv := HCV.out
            go_wp2_with fail
            refine (c1 _).mono ?_
            rintro e w2 ⟨rfl, b2⟩
            have q2 := HBW.out.then b2
            go_wp2_with fail
            refine (c2 _).mono ?_
            rintro e w3 ⟨rfl, b3⟩
            have q3 := (below_lit q2 _).then b3
            go_wp2
            go_ret
            exact ⟨rfl, q3⟩
          · have f1 : (v == 45) = false := by simp [hv]
            have f2 : (v == 32) = false := by simp [hv]
            have f3 : (v == 9) = true := by simp [hv]
            clear hbo hv HC3
            have hcv := HCV.out
            go_wp2_with fail
            refine (c1 _).mono ?_
            rintro e w2 ⟨rfl, b2⟩
            have q2 := HBW.out.then b2
            go_wp2_with fail
            refine (c2 _).mono ?_
            rintro e w3 ⟨rfl, b3⟩
            have q3 := (below_lit q2 _).then b3
            go_wp2
            go_ret
            exact ⟨rfl, q3⟩
          · have f1 : (v == 45) = false := by simp [hv1]
            have f2 : (v == 32) = false := by simp [hv2]
            have f3 : (v == 9) = false := by simp [hv3]
            have hne : ∀ c : UInt8, v ≠ (c.toNat : Int) → v.toNat.toUInt8 ≠ c := fun c hc e => hc (by rw [← e]; exact hbo.symm)
            have hgo : isGap v.toNat.toUInt8 = false := by simp [isGap, hne 32 hv2, hne 9 hv3]
            have c3 := HC3.out
            rw [mkUnder_dash n1 (mkRow_other (hne 45 hv1)), show ([v.toNat.toUInt8] : List UInt8).all isGap = false from by simp [hgo], if_neg (by simp)] at c3
            have HC4 := Lib.hid c3
            clear hbo HC3 hv1 hv2 hv3 hne hgo c3
            have hcv := HCV.out
            go_wp2_with fail
            refine (c1 _).mono ?_
            rintro e w2 ⟨rfl, b2⟩
            have q2 := HBW.out.then b2
            go_wp2_with fail
            refine (c2 _).mono ?_
            rintro e w3 ⟨rfl, b3⟩
            have q3 := (below_lit q2 _).then b3
            have hcb := HCB.out
            go_wp2_with fail
            refine (HC4.out _).mono ?_
            rintro e w4 ⟨rfl, b4⟩
            go_wp2
            go_ret
            exact ⟨rfl, (below_lit q3 _).then b4⟩

set_option maxHeartbeats 16000000 in
theorem markUnders_eq (w : World) (n m : Nat) (v : Int) (n1 : 1 ≤ n) (n20 : n ≤ 20) (m5 : m ≤ 5) (v0 : 0 ≤ v) (v1 : v ≤ 255) :
    Calls Tryd.prog 9 #[.int .i64 n, .int .i64 m, .bool false, .int .u8 v] w fun e w' => e = .returned (.bool true) ∧ Below w.heap.size w w' := by
  go_enter Tryd.func9, Tryd.ntmps9
  go_wp2_with fail
  refine (alive8_any _).mono ?_
  rintro e w1 ⟨rfl, b1⟩
  go_wp2_with fail
  go_loopw [11, 12] (fun z i wr => GroRel [] 61 n w1 z i wr) (fun _ i _ => n - (intOf i).toNat)
  case atStart => exact ⟨0, ⟨#[]⟩, rfl, Nat.zero_le _, rfl, rfl, Below.refl _ _⟩
  case round =>
    obtain ⟨k, S, rfl, hk, rfl, hS, hbw⟩ := hrel
    have hsz := text_size hS
    simp only [List.nil_append, List.length_replicate] at hsz
    have hcv := conv_61 wr
    have k0 := fun W => run_string_add_sum (P := Tryd.prog) W S (⟨#[61]⟩ : ByteArray) (by show _ + 1 ≤ _; omega)
    by_cases hp : k < n
    · have HST := Lib.hid (rep_step hS)
      clear hS
      go_wp2
      go_roundw
      case rel => exact ⟨k + 1, _, by go_num, by omega, rfl, HST.out, below_lit hbw _⟩
      case measure => simp [intOf]; omega
    · obtain rfl : k = n := by omega
      have HS := Lib.hid hS
      have HBW := Lib.hid (b1.then hbw)
      clear hS hbw hcv k0
      rename World => wB
      go_wp2_with fail
      go_loopw [13, 14] (fun z i wr => RepRel (List.replicate k 61) 32 m wB z i wr) (fun _ i _ => m - (intOf i).toNat)
      case atStart => exact ⟨0, _, rfl, Nat.zero_le _, rfl, by rw [HS.out]; simp, rfl⟩
      case round =>
        obtain ⟨j, T, rfl, hj, rfl, hT, hwe⟩ := hrel
        have hwe := hwe.symm
        subst hwe
        have hszT := text_size hT
        simp only [List.length_append, List.length_replicate] at hszT
        by_cases hp2 : j < m
        · have HST := Lib.hid (rep_step hT)
          clear hT
          go_wp2
          exact ⟨⟨j + 1, _, by go_num, by omega, rfl, HST.out, rfl⟩, by simp [intOf]; omega⟩
        · obtain rfl : j = m := by omega
          have z1 : (S ++ (⟨#[32]⟩ : ByteArray)).size ≤ 21 := by rw [ByteArray.size_append]; show _ + 1 ≤ _; omega
          have c1 := fun w1 => mkUnder_any T w1 (by omega)
          have c2 := fun w1 => mkUnder_any ((S ++ (⟨#[32]⟩ : ByteArray)) ++ (⟨#[61]⟩ : ByteArray)) w1 (by rw [ByteArray.size_append]; show _ + 1 ≤ _; omega)
          have c3 := fun w1 => mkUnder_any (S ++ (⟨#[v.toNat.toUInt8]⟩ : ByteArray)) w1 (by rw [ByteArray.size_append]; show _ + 1 ≤ _; omega)
          rw [hT, mkUnder_eq n1 (row_blanks (by decide) j), rep_gap, if_pos rfl] at c1
          rw [cat_two S (⟨#[61]⟩ : ByteArray) [32], HS.out, List.nil_append, List.append_assoc, show ([32] : List UInt8) ++ (⟨#[61]⟩ : ByteArray).data.toList = [32, 61] from rfl, mkUnder_eq n1 rfl, show ([32, 61] : List UInt8).all isGap = false from rfl, if_neg (by simp)] at c2
          rw [cat_one S [v.toNat.toUInt8], HS.out, List.nil_append] at c3
          have k1 := fun W => run_string_add_sum (P := Tryd.prog) W S (⟨#[32]⟩ : ByteArray) (by show _ + 1 ≤ _; omega)
          have k2 := fun W => run_string_add_sum (P := Tryd.prog) W (S ++ (⟨#[32]⟩ : ByteArray)) (⟨#[61]⟩ : ByteArray) (by show _ + 1 ≤ _; omega)
          have k3 := fun W => run_string_add_sum (P := Tryd.prog) W S (⟨#[v.toNat.toUInt8]⟩ : ByteArray) (by show _ + 1 ≤ _; omega)
          have hbo := byte_of v v0 v1
          have HCV := Lib.hid (fun W => conv_61 W)
          have HCB := Lib.hid (fun W => conv_byte W v v0 v1)
          have hor : v = 61 ∨ v = 32 ∨ v = 9 ∨ (v ≠ 61 ∧ v ≠ 32 ∧ v ≠ 9) := by omega
          have HC3 := Lib.hid c3
          clear hT hszT hsz c3
          rcases hor with hv | hv | hv | ⟨hv1, hv2, hv3⟩
          · have f1 : (v == 61) = true := by simp [hv]
            clear hbo hv HC3
            have hcv := HCV.out
            go_wp2_with fail
            refine (c1 _).mono ?_
            rintro e w2 ⟨rfl, b2⟩
            have q2 := HBW.out.then b2
            go_wp2_with fail
            refine (c2 _).mono ?_
            rintro e w3 ⟨rfl, b3⟩
            have q3 := (below_lit q2 _).then b3
            go_wp2
            go_ret
            exact ⟨rfl, q3⟩
          · have f1 : (v == 61) = false := by simp [hv]
            have f2 : (v == 32) = true := by simp [hv]
            clear hbo hv HC3
            have hcv := HCV.out
            go_wp2_with fail
            refine (c1 _).mono ?_
            rintro e w2 ⟨rfl, b2⟩
            have q2 := HBW.out.then b2
            go_wp2_with fail
            refine (c2 _).mono ?_
            rintro e w3 ⟨rfl, b3⟩
            have q3 := (below_lit q2 _).then b3
            go_wp2
            go_ret
            exact ⟨rfl, q3⟩
          · have f1 : (v == 61) = false := by simp [hv]
            have f2 : (v == 32) = false := by simp [hv]
            have f3 : (v == 9) = true := by simp [hv]
            clear hbo hv HC3
            have hcv := HCV.out
            go_wp2_with fail
            refine (c1 _).mono ?_
            rintro e w2 ⟨rfl, b2⟩
            have q2 := HBW.out.then b2
            go_wp2_with fail
            refine (c2 _).mono ?_
            rintro e w3 ⟨rfl, b3⟩
            have q3 := (below_lit q2 _).then b3
            go_wp2
            go_ret
            exact ⟨rfl, q3⟩
          · have f1 : (v == 61) = false := by simp [hv1]
            have f2 : (v == 32) = false := by simp [hv2]
            have f3 : (v == 9) = false := by simp [hv3]
            have hne : ∀ c : UInt8, v ≠ (c.toNat : Int) → v.toNat.toUInt8 ≠ c := fun c hc e => hc (by rw [← e]; exact hbo.symm)
            have hgo : isGap v.toNat.toUInt8 = false := by simp [isGap, hne 32 hv2, hne 9 hv3]
            have c3 := HC3.out
            rw [mkUnder_eq n1 (mkRow_other (hne 61 hv1)), show ([v.toNat.toUInt8] : List UInt8).all isGap = false from by simp [hgo], if_neg (by simp)] at c3
            have HC4 := Lib.hid c3
            clear hbo HC3 hv1 hv2 hv3 hne hgo c3
            have hcv := HCV.out
            go_wp2_with fail
            refine (c1 _).mono ?_
            rintro e w2 ⟨rfl, b2⟩
            have q2 := HBW.out.then b2
            go_wp2_with fail
            refine (c2 _).mono ?_
            rintro e w3 ⟨rfl, b3⟩
            have q3 := (below_lit q2 _).then b3
            have hcb := HCB.out
            go_wp2_with fail
            refine (HC4.out _).mono ?_
            rintro e w4 ⟨rfl, b4⟩
            go_wp2
            go_ret
            exact ⟨rfl, (below_lit q3 _).then b4⟩

set_option maxHeartbeats 4000000 in
theorem markUnders_walk (w : World) (a0 : Int) (w0 : (Lit.int .i64 a0).wf = true) (a1 : Int) (w1 : (Lit.int .i64 a1).wf = true) (a2 : Bool) (a3 : Int) (w3 : (Lit.int .u8 a3).wf = true) :
    Calls Tryd.prog 9 #[.int .i64 a0, .int .i64 a1, .bool a2, .int .u8 a3] w fun e w' => e = .returned (.bool true) ∧ Below w.heap.size w w' := by
  have hw0 : -9223372036854775808 ≤ a0 ∧ a0 ≤ 9223372036854775807 := by simpa [Lit.wf, IntKind.min, IntKind.max, IntKind.signed, IntKind.bits] using w0
  have hw1 : -9223372036854775808 ≤ a1 ∧ a1 ≤ 9223372036854775807 := by simpa [Lit.wf, IntKind.min, IntKind.max, IntKind.signed, IntKind.bits] using w1
  have hw3 : 0 ≤ a3 ∧ a3 ≤ 255 := by simpa [Lit.wf, IntKind.min, IntKind.max, IntKind.signed, IntKind.bits] using w3
  by_cases h : 1 ≤ a0 ∧ a0 ≤ 20 ∧ 0 ≤ a1 ∧ a1 ≤ 5
  · obtain ⟨h1, h2, h3, h4⟩ := h
    cases a2 with
    | true =>
      have := markUnders_dash w a0.toNat a1.toNat a3 (by omega) (by omega) (by omega) hw3.1 hw3.2
      rw [show ((a0.toNat : Nat) : Int) = a0 from by omega, show ((a1.toNat : Nat) : Int) = a1 from by omega] at this
      exact this
    | false =>
      have := markUnders_eq w a0.toNat a1.toNat a3 (by omega) (by omega) (by omega) hw3.1 hw3.2
      rw [show ((a0.toNat : Nat) : Int) = a0 from by omega, show ((a1.toNat : Nat) : Int) = a1 from by omega] at this
      exact this
  · have hor : a0 < 1 ∨ (1 ≤ a0 ∧ 20 < a0) ∨ (1 ≤ a0 ∧ a0 ≤ 20 ∧ a1 < 0) ∨ (1 ≤ a0 ∧ a0 ≤ 20 ∧ 0 ≤ a1 ∧ 5 < a1) := by omega
    clear h w0 w1 hw0 hw1 w3 hw3
    rcases hor with h | ⟨h, h2⟩ | ⟨h, h2, h3⟩ | ⟨h, h2, h3, h4⟩
    all_goals
      go_enter Tryd.func9, Tryd.ntmps9
      go_wp2_with (go_at_call 10; refine (alive8_any _).mono ?_; rintro e w3 ⟨rfl, b2⟩)
      go_ret
      exact ⟨rfl, b2⟩

end Go.Proofs.YtbfhipdcghajeaaDoor
