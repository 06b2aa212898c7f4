/-
  PolicyMany: as many levels as may be; one more is none: the law's walk.
-/
import Derived.Test.YtobmmbhmaaednaaPolI
import Derived.Laws.BytesArg
namespace Go.Proofs.Ytobmmbhmaaednaa
open Go.RowKit
set_option linter.unusedSimpArgs false
set_option linter.unusedVariables false

def twoN (z : Int) : List Int := [97 + z / 26, 97 + z % 26]
def twoL (z : Int) : List UInt8 := (twoN z).map fun n => UInt8.ofNat n.toNat
def nmK (k : Nat) : List UInt8 := 108 :: twoL k
def nms (n : Nat) : List (List UInt8) := (List.range n).map nmK
def manyL (n : Nat) : List UInt8 := joinL ((nms n).map (lvl ++ ·))
theorem nms_length (n : Nat) : (nms n).length = n := by simp [nms]
theorem nms_succ (n : Nat) : nms (n + 1) = nms n ++ [nmK n] := by simp [nms, List.range_succ]
theorem nms_add (a b : Nat) : nms (a + b) = nms a ++ (List.range b).map fun j => nmK (a + j) := by
  simp [nms, List.range_add]
theorem manyL_succ (n : Nat) : manyL (n + 1) = manyL n ++ ((lvl ++ nmK n) ++ [10]) := by
  unfold manyL
  rw [nms_succ, List.map_append, joinL_append]
  simp [joinL]
theorem manyL_len (n : Nat) : (manyL n).length = 10 * n := by
  induction n with
  | zero => rfl
  | succ n ih => rw [manyL_succ, List.length_append, ih]; simp [lvl, nmK, twoL, twoN]; omega

theorem many_names : ((List.range 81).all fun n => nmL (nmK n) && (nmK n).all fun b => decide (b.toNat < 128) && (!(b == 0) && (!(b == 13) && !(b == 10)))) = true := by decide +kernel
theorem many_name (n : Nat) (h : n ≤ 80) : nmL (nmK n) = true ∧ ∀ b ∈ nmK n, b.toNat < 128 ∧ b ≠ 0 ∧ b ≠ 13 ∧ b ≠ 10 := by
  have := List.all_eq_true.1 many_names n (List.mem_range.2 (by omega))
  rw [Bool.and_eq_true] at this
  refine ⟨this.1, fun b hb => ?_⟩
  have h2 := List.all_eq_true.1 this.2 b hb
  simpa using h2
theorem many_right : ((List.range 65).all fun n => rightN (nms n)) = true := by decide +kernel
theorem many_rightN (n : Nat) (h : n ≤ 64) : rightN (nms n) = true := List.all_eq_true.1 many_right n (List.mem_range.2 (by omega))

theorem many_line (n : Nat) (h : n ≤ 80) : ∀ b ∈ lvl ++ nmK n, b.toNat < 128 ∧ b ≠ 0 ∧ b ≠ 13 ∧ b ≠ 10 := by
  intro b hb
  rcases List.mem_append.1 hb with hb | hb
  · have hl : ∀ b ∈ lvl, b.toNat < 128 ∧ b ≠ 0 ∧ b ≠ 13 ∧ b ≠ 10 := by decide
    exact hl b hb
  · exact (many_name n h).2 b hb
theorem many_clean (n : Nat) (h : n ≤ 80) : Clean (manyL n) := by
  induction n with
  | zero => intro b hb; simp [manyL, nms, joinL] at hb
  | succ n ih =>
    intro b hb
    rw [manyL_succ, List.mem_append, List.mem_append] at hb
    rcases hb with hb | hb | hb
    · exact ih (by omega) b hb
    · have := many_line n (by omega) b hb; exact ⟨this.1, this.2.1, this.2.2.1⟩
    · simp at hb; subst hb; decide
theorem many_split (n : Nat) (h : n ≤ 80) : splitL (manyL n) = (nms n).map (lvl ++ ·) := by
  refine split_join _ (fun y hy x hx => ?_)
  obtain ⟨z, hz, rfl⟩ := List.mem_map.1 hy
  obtain ⟨k, hk, rfl⟩ := List.mem_map.1 hz
  rw [List.mem_range] at hk
  exact (many_line k (by omega) x hx).2.2.2
theorem many_parse (n : Nat) (h1 : 1 ≤ n) (h : n ≤ 80) : parseS (manyL n) = if n ≤ 64 then some (nms n, []) else none := by
  rw [parseS_fin, textL_clean _ (many_clean n h), many_split n h]
  by_cases h64 : n ≤ 64
  · have hp := parse_levels (nms n) (by rw [nms_length]; exact h64) (many_rightN n h64) [] n 0 (by rw [nms_length]; omega)
    rw [List.drop_zero, List.take_zero, List.append_nil] at hp
    rw [hp, if_pos h64]
    show (if (nms n) = [] then none else _) = _
    rw [if_neg]
    intro e
    have := congrArg List.length e
    rw [nms_length] at this
    simp at this; omega
  · rw [if_neg h64]
    obtain ⟨d, rfl⟩ : ∃ d, n = 64 + (d + 1) := ⟨n - 65, by omega⟩
    rw [nms_add, List.map_append]
    have hp := parse_levels (nms 64) (by rw [nms_length]; omega) (many_rightN 64 (by omega)) (((List.range (d + 1)).map fun j => nmK (64 + j)).map (lvl ++ ·)) 64 0 (by rw [nms_length])
    rw [List.drop_zero, List.take_zero] at hp
    rw [hp, List.range_succ_eq_map, List.map_cons, List.map_cons]
    have ht : takeL (nms 64, []) (lvl ++ nmK (64 + 0)) = none := by
      unfold takeL
      rw [if_pos ⟨hasPrefix_lvl _, by show nmL (nmK 64) = true; exact (many_name 64 (by omega)).1⟩]
      exact if_pos (Or.inl (by rw [nms_length]))
    rw [parse_none (skip_lvl _) ht]
    rfl

def MnRel (n : Nat) (w1 : World) (s i : Value) (wr : World) : Prop :=
  ∃ (k : Nat) (z : Int), i = .int .i64 z ∧ z = k ∧ k ≤ n ∧ s = .string ⟨(manyL k).toArray⟩ ∧ Below w1.heap.size w1 wr

theorem policyMany_out (w : World) (hml : MaxL w) (a0 : Int) (h : a0 < 1 ∨ (1 ≤ a0 ∧ 80 < a0)) :
    Calls Try.prog 5 #[.int .i64 a0] w fun e w' => e = .returned (.bool true) ∧ Below w.heap.size w w' := by
  rcases h with h | ⟨h1, h⟩
  all_goals
    go_enter Try.func5, Try.ntmps5
    go_wp2_with fail
    refine (alive4_any _ hml).mono ?_
    rintro e w1 ⟨rfl, b1⟩
    go_wp2
    go_ret
    exact ⟨rfl, b1⟩

set_option maxHeartbeats 2000000 in
set_option maxRecDepth 100000 in
theorem policyMany_in (w : World) (hml : MaxL w) (n : Nat) (h1 : 1 ≤ n) (h2 : n ≤ 80) :
    Calls Try.prog 5 #[.int .i64 n] w fun e w' => e = .returned (.bool true) ∧ Below w.heap.size w w' := by
  go_enter Try.func5, Try.ntmps5
  go_wp2_with fail
  refine (alive4_any _ hml).mono ?_
  rintro e w1 ⟨rfl, b1⟩
  have hm1 := hml.below b1
  go_wp2_with fail
  go_loopw [3, 4] (fun s i wr => MnRel n w1 s i wr) (fun _ i _ => n - (intOf i).toNat)
  case atStart => exact ⟨0, 0, rfl, rfl, Nat.zero_le _, rfl, Below.refl _ _⟩
  case round =>
    obtain ⟨k, z, rfl, hz, hk, rfl, hbw⟩ := hrel
    have hlen := manyL_len k
    have hz0 : 0 ≤ z := by omega
    have hz1 : z ≤ 80 := by omega
    by_cases hp : k < n
    · have hp2 : z < (n : Int) := by omega
      have HU := Lib.hid (show (⟨(manyL k).toArray⟩ : ByteArray) ++ (((⟨#[108, 101, 118, 101, 108, 32, 108]⟩ : ByteArray) ++ ⟨(twoL z).toArray⟩) ++ ⟨#[10]⟩) = ⟨(manyL (k + 1)).toArray⟩ from by
        rw [show (⟨#[108, 101, 118, 101, 108, 32, 108]⟩ : ByteArray) = ⟨(lvl ++ [108]).toArray⟩ from rfl, show (⟨#[10]⟩ : ByteArray) = ⟨([10] : List UInt8).toArray⟩ from rfl, cat_str, cat_str, cat_str, manyL_succ, hz]
        simp [nmK])
      have hconv := run_convert_bytes_arg (P := Try.prog) (wr.alloc (.cells #[.int .u8 (97 + z / 26), .int .u8 (97 + z % 26)] 5))
        37 5 Try.underlying37 Try.underlying5 wr.heap.size 0 2 2 (twoN z) rfl (fun j hj => by
          rw [Nat.zero_add, cell_of_row _ _ j _ 5 (0, 0) (heap_alloc_new wr _)]
          match j, hj with
          | 0, _ => rfl
          | 1, _ => rfl
          | n + 2, h => omega) 9 Try.underlying9
      rw [show strOfNums (twoN z) = ⟨(twoL z).toArray⟩ from rfl] at hconv
      have hX : (⟨(twoL z).toArray⟩ : ByteArray).size = 2 := by rw [str_size]; rfl
      have hM : (⟨(manyL k).toArray⟩ : ByteArray).size ≤ 800 := by rw [str_size]; omega
      have HZ := Lib.hid hz
      generalize (⟨(twoL z).toArray⟩ : ByteArray) = X at *
      generalize (⟨(manyL k).toArray⟩ : ByteArray) = M at *
      have s1 : ((⟨#[108, 101, 118, 101, 108, 32, 108]⟩ : ByteArray) ++ X).size ≤ 10 := by rw [ByteArray.size_append]; show 7 + _ ≤ _; omega
      have s2 : (((⟨#[108, 101, 118, 101, 108, 32, 108]⟩ : ByteArray) ++ X) ++ (⟨#[10]⟩ : ByteArray)).size ≤ 20 := by rw [ByteArray.size_append]; show _ + 1 ≤ _; omega
      have t1 := fun W => run_string_add_sum (P := Try.prog) W ⟨#[108, 101, 118, 101, 108, 32, 108]⟩ X (by show 7 + _ ≤ _; omega)
      have t2 := fun W => run_string_add_sum (P := Try.prog) W ((⟨#[108, 101, 118, 101, 108, 32, 108]⟩ : ByteArray) ++ X) ⟨#[10]⟩ (by show _ + 1 ≤ _; omega)
      have t3 := fun W => run_string_add_sum (P := Try.prog) W M (((⟨#[108, 101, 118, 101, 108, 32, 108]⟩ : ByteArray) ++ X) ++ ⟨#[10]⟩) (by omega)
      clear hz hlen
      go_wp2
      go_roundw
      case rel => exact ⟨k + 1, z + 1, rfl, by rw [HZ.out]; omega, by omega, by rw [← HU.out], hbw.then ((Below.refl _ wr).alloc (Nat.le_refl _) _)⟩
      case measure => simp [intOf]; omega
    · obtain rfl : k = n := by omega
      have hp2 : ¬ z < (k : Int) := by omega
      have cp := fun w3 hm3 => parse_any ⟨(manyL k).toArray⟩ w3 (by rw [str_size, manyL_len]; omega) hm3
      rw [show (⟨(manyL k).toArray⟩ : ByteArray).data.toList = manyL k from rfl, many_parse k h1 h2] at cp
      have HBW := Lib.hid (b1.then hbw)
      have HM := Lib.hid (hm1.below hbw)
      clear hbw hz hlen
      by_cases h64 : k ≤ 64
      · rw [if_pos h64] at cp
        have f64 : decide ((k : Int) ≤ 64) = true := decide_eq_true (by omega)
        go_wp2_with fail
        refine (cp _ HM.out).mono ?_
        rintro e w3 ⟨b3, nv, bv, rfl, hn, hb⟩
        obtain ⟨A, ca, rfl, _, _⟩ := RowOf.own hn
        obtain ⟨A2, c2, rfl, _⟩ := PairsAt.own (ps := (nms k, ([] : List (Int × Int))).2) hb
        have hl : (nms k, ([] : List (Int × Int))).1.length = k := nms_length k
        rw [hl]
        clear hn hb cp
        go_wp2
        go_ret
        exact ⟨ret_bool (by simp <;> omega), (HBW.out.then b3).then ((Below.refl _ w3).alloc (Nat.le_refl _) _)⟩
      · rw [if_neg h64] at cp
        have f64 : decide ((k : Int) ≤ 64) = false := decide_eq_false (by omega)
        go_wp2_with fail
        refine (cp _ HM.out).mono ?_
        rintro e w3 ⟨b3, rfl⟩
        clear cp
        go_wp2
        go_ret
        exact ⟨ret_bool (by simp <;> omega), (HBW.out.then b3).then ((Below.refl _ w3).alloc (Nat.le_refl _) _)⟩

theorem policyMany_walk (w : World) (hml : MaxL w) (a0 : Int) (w0 : (Lit.int .i64 a0).wf = true) :
    Calls Try.prog 5 #[.int .i64 a0] w fun e w' => e = .returned (.bool true) ∧ Below w.heap.size w w' := by
  by_cases h1 : 1 ≤ a0
  · by_cases h2 : a0 ≤ 80
    · obtain ⟨n, rfl⟩ : ∃ n : Nat, a0 = n := ⟨a0.toNat, by omega⟩
      exact policyMany_in w hml n (by omega) (by omega)
    · exact policyMany_out w hml a0 (Or.inr ⟨h1, by omega⟩)
  · exact policyMany_out w hml a0 (Or.inl (by omega))

end Go.Proofs.Ytobmmbhmaaednaa
