/-
  LineJoins: lines joined have all their bytes, and an LF behind each; the law's walk.
-/
import Derived.Test.YtkhmlnhfmlckdaaLineAl
import Derived.Deep.RegionHeld3
namespace Go.Proofs.Ytkhmlnhfmlckdaa
open Go.RowKit
set_option linter.unusedSimpArgs false
set_option linter.unusedVariables false

def joinN : List (List UInt8) → Nat
  | [] => 0
  | l :: ls => l.length + 1 + joinN ls
theorem joinN_eq : ∀ ls : List (List UInt8), (joinL ls).length = joinN ls
  | [] => rfl
  | l :: ls => by simp [joinL, joinN, joinN_eq ls]; omega
theorem joinN_take (ls : List (List UInt8)) (k : Nat) (h : k < ls.length) : joinN (ls.take (k + 1)) = joinN (ls.take k) + (ls[k].length + 1) := by
  rw [← joinN_eq, ← joinN_eq, joinL_take ls k h]
  simp [Nat.add_assoc]
theorem joinN_le : ∀ (ls : List (List UInt8)) (m : Nat), (∀ l ∈ ls, l.length ≤ m) → joinN ls ≤ ls.length * (m + 1)
  | [], _, _ => by simp [joinN]
  | l :: ls, m, h => by
    have h1 := h l (by simp)
    have h2 := joinN_le ls m (fun x hx => h x (by simp [hx]))
    simp only [joinN, List.length_cons, Nat.succ_mul]
    omega

theorem lineJoins_long (w : World) (A : Option Addr) (c : Nat) (ls : List (List UInt8)) (a1 : Int) (h : 40 < ls.length) (hc : ls.length ≤ 9223372036854775807) :
    Calls Try.prog 8 #[.slice A ls.length c, .int .i64 a1] w fun e w' => e = .returned (.bool true) ∧ Below w.heap.size w w' := by
  go_enter Try.func8, Try.ntmps8
  go_wp2_with (go_at_call 9; refine (alive_any _).mono ?_; rintro e w' ⟨rfl, b1⟩)
  go_ret
  exact ⟨rfl, b1⟩

def joinNT (ls : List (List UInt8)) (k : Nat) : Nat := joinN (ls.take k)
def JoinsRel (ls : List (List UInt8)) (w : World) (n i : Value) (wr : World) : Prop :=
  ∃ k : Nat, i = .int .i64 k ∧ k ≤ ls.length ∧ n = .int .i64 (joinNT ls k) ∧ (∀ l ∈ ls.take k, l.length ≤ 60) ∧ wr = w

theorem RowOf.drop {w : World} {A : Option Addr} {cap : Nat} {xs : List Value} (h : RowOf w A cap xs) (k : Nat) : RowOf w (A.map fun x => x.add k) (cap - k) (xs.drop k) := by
  refine ⟨by have := h.1; rw [List.length_drop]; omega, by have := h.2.1; omega, ?_⟩
  rcases h.2.2 with h1 | ⟨b, off, rfl, hb, hc⟩
  · exact Or.inl (by rw [h1]; simp)
  · by_cases hk : k < xs.length
    · refine Or.inr ⟨b, off + k, by rw [← addr_add]; rfl, hb, fun i hi => ?_⟩
      rw [List.length_drop] at hi
      rw [List.getElem_drop, Nat.add_assoc]
      exact hc (k + i) (by omega)
    · exact Or.inl (List.drop_eq_nil_of_le (by omega))

/-- The list may be read still, and nothing below has turned. -/
def Held (w : World) (A : Option Addr) (c : Nat) (ls : List (List UInt8)) (W : World) : Prop := RowOf W A c (strs ls) ∧ Below w.heap.size w W
theorem Held.next {w : World} {A : Option Addr} {c : Nat} {ls : List (List UInt8)} {W W' : World} (h : Held w A c ls W) (b : Below W.heap.size W W') : Held w A c ls W' := ⟨h.1.below b, h.2.then b⟩
theorem Held.drew {w : World} {A : Option Addr} {c : Nat} {ls : List (List UInt8)} {W : World} (h1 : RowOf W A c (strs ls)) (h2 : Below w.heap.size w W) : Held w A c ls W.drew := ⟨rowOf_heap rfl h1, h2.drew⟩
theorem held_join (w : World) (A : Option Addr) (c : Nat) (ls ms : List (List UInt8)) (A' : Option Addr) (c' n : Nat) (S : ByteArray) (hn : ms.length = n) (hS : (⟨(joinL ms).toArray⟩ : ByteArray) = S) (hl : (joinL ms).length ≤ 70368744177664)
    (hr : ∀ W, RowOf W A c (strs ls) → RowOf W A' c' (strs ms)) (W : World) (h : Held w A c ls W) :
    Calls Try.prog 15 #[.slice A' n c'] W fun e w' => e = .returned (.string S) ∧ Held w A c ls w' := by
  subst hn hS
  exact (join_any A' c' ms W (hr W h.1) hl).mono fun e w' ⟨he, hb⟩ => ⟨he, h.next hb⟩

set_option maxHeartbeats 1000000 in
theorem lineJoins_short (w : World) (A : Option Addr) (c : Nat) (ls : List (List UInt8)) (a1 : Int) (h : ls.length ≤ 40) (hrow : RowOf w A c (strs ls)) :
    Calls Try.prog 8 #[.slice A ls.length c, .int .i64 a1] w fun e w' => e = .returned (.bool true) ∧ Below w.heap.size w w' := by
  have hc1 := hrow.1
  rw [strs_length] at hc1
  have hc2 := hrow.2.1
  unfold maxLen at hc2
  have hm1 := Int.tmod_lt_of_pos a1 (show (0 : Int) < (ls.length : Int) + 1 by omega)
  have hm2 : -((ls.length : Int) + 1) < a1.tmod ((ls.length : Int) + 1) := by
    have := Int.lt_tmod_of_pos a1 (show (0 : Int) < (ls.length : Int) + 1 by omega)
    omega
  go_enter Try.func8, Try.ntmps8
  go_wp2_with fail
  refine (alive_any _).mono ?_
  rintro e w1 ⟨rfl, b1⟩
  have hrow1 := hrow.below b1
  go_wp2_with fail
  go_loopw [5, 19] (fun n i wr => JoinsRel ls w1 n i wr) (fun _ i _ => ls.length - (intOf i).toNat)
  case atStart => exact ⟨0, rfl, Nat.zero_le _, rfl, by simp, rfl⟩
  case round =>
    obtain ⟨k, rfl, hk, rfl, hall, rfl⟩ := hrel
    have hN : joinNT ls k ≤ _ := joinN_le (ls.take k) 60 hall
    rw [List.length_take] at hN
    have HA := Lib.hid hall
    clear hall
    by_cases hp : k < ls.length
    · obtain ⟨b, off, rfl, hb, hcell⟩ := hrow1.cellAt hp
      by_cases hx : 60 < ls[k].length
      · go_wp2
        go_ret
        exact ⟨rfl, b1⟩
      · have HA2 := Lib.hid (show joinNT ls (k + 1) = joinNT ls k + (ls[k].length + 1) from joinN_take ls k hp)
        have HA3 := Lib.hid (show ∀ l ∈ ls.take (k + 1), l.length ≤ 60 from by
          rw [List.take_succ_eq_append_getElem hp]
          intro l hl
          rw [List.mem_append, List.mem_singleton] at hl
          rcases hl with hl | rfl
          · exact HA.out l hl
          · omega)
        have hx2 : ls[k].length ≤ 60 := by omega
        clear hx
        go_wp2
        exact ⟨⟨k + 1, by go_num, by omega, by rw [HA2.out]; go_num, HA3.out, rfl⟩, by simp [intOf]; omega⟩
    · obtain rfl : k = ls.length := by omega
      have hjl := joinN_eq ls
      have hjn : joinNT ls ls.length = joinN ls := by unfold joinNT; rw [List.take_length]
      have HT := Lib.hid hjn
      rw [hjn, Nat.min_self] at hN
      clear hjn
      have HJ := Lib.hid hjl
      have hq1 := Int.emod_nonneg (a1.tmod ((ls.length : Int) + 1) + ls.length + 1) (show (ls.length : Int) + 1 ≠ 0 by omega)
      have hq2 := Int.emod_lt_of_pos (a1.tmod ((ls.length : Int) + 1) + ls.length + 1) (show (0 : Int) < (ls.length : Int) + 1 by omega)
      go_wp2_with fail
      generalize (a1.tmod ((ls.length : Int) + 1) + ls.length + 1) % ((ls.length : Int) + 1) = X at *
      obtain ⟨K, rfl⟩ := Int.eq_ofNat_of_zero_le hq1
      have cj := join_any A c ls wr hrow1 (by omega)
      have d1 := held_join w A c ls (ls.take K) A c K _ (by rw [List.length_take]; omega) rfl (by have := joinL_le ls K; omega) (fun W h => by have := h.take K; rwa [show (strs ls).take K = strs (ls.take K) from by simp [strs]] at this)
      have hjd : (joinL (ls.drop K)).length ≤ (joinL ls).length := by
        have := congrArg List.length (show joinL ls = joinL (ls.take K) ++ joinL (ls.drop K) from by rw [← joinL_append, List.take_append_drop])
        rw [List.length_append] at this
        omega
      have d2 := held_join w A c ls (ls.drop K) (A.map fun x => x.add K) (c - K) (ls.length - K) _ (by rw [List.length_drop]) rfl (by omega) (fun W h => by have := h.drop K; rwa [show (strs ls).drop K = strs (ls.drop K) from by simp [strs]] at this)
      have d3 := held_join w A c ls [] A 0 0 _ rfl rfl (by simp [joinL]) (fun W h => ⟨Nat.le_refl _, Nat.zero_le _, Or.inl rfl⟩)
      have HW := Lib.hid (show (⟨(joinL (ls.take K)).toArray⟩ : ByteArray) ++ ⟨(joinL (ls.drop K)).toArray⟩ = ⟨(joinL ls).toArray⟩ from by
        rw [str_append]
        show (⟨(joinL (ls.take K) ++ joinL (ls.drop K)).toArray⟩ : ByteArray) = _
        rw [← joinL_append, List.take_append_drop])
      have hz1 : (⟨(joinL (ls.take K)).toArray⟩ : ByteArray).size + (⟨(joinL (ls.drop K)).toArray⟩ : ByteArray).size ≤ 1000000 := by
        rw [str_size, str_size]
        have := joinL_le ls K
        omega
      have HD : Hid (c = K → (⟨(joinL (ls.drop K)).toArray⟩ : ByteArray) = ⟨(joinL []).toArray⟩) := fun e => by
        rw [List.drop_of_length_le (by omega)]
      have hSz := str_size (joinL ls)
      generalize hS : (⟨(joinL ls).toArray⟩ : ByteArray) = S at *
      generalize (⟨(joinL (ls.take K)).toArray⟩ : ByteArray) = S1 at *
      generalize (⟨(joinL (ls.drop K)).toArray⟩ : ByteArray) = S2 at *
      generalize (⟨(joinL []).toArray⟩ : ByteArray) = S3 at *
      have ft : ((S.size : Int) == (joinNT ls ls.length : Int)) = true := by rw [HT.out, hSz, HJ.out]; simp
      have HS := Lib.hid hS
      have HZ := Lib.hid hSz
      clear hS hSz hjl
      refine cj.mono ?_
      rintro e w2 ⟨rfl, b2⟩
      have hrow2 := hrow1.below b2
      have hb2 := b1.then b2
      have hkc : (K : Int) ≤ c := by omega
      have hkl : (K : Int) ≤ ls.length := by omega
      have hS2 := Held.drew hrow2 hb2
      clear cj
      have hz2 : S1.size + S2.size ≤ 9223372036854775807 := by omega
      have hcat := fun W => run_string_add_sum (P := Try.prog) W S1 S2 hz2
      by_cases hck : c = K
      · obtain rfl : c = K := hck
        obtain rfl : S2 = S3 := HD.out rfl
        have hz : ls.length - c = 0 := by omega
        go_wp2_with fail
        go_region_held3 (fun W => Held w A c ls W) (assumption) (first | (go_at_call 15; (with_reducible refine (d1 _ (by assumption)).mono ?_); rintro e w5 ⟨rfl, hh5⟩) | (go_at_call 15; (with_reducible refine (d3 _ (by assumption)).mono ?_); rintro e w5 ⟨rfl, hh5⟩))
        go_wp2
        go_ret
        exact ⟨ret_bool (by rw [HW.out]; exact beq_self_eq_true _), hh5.2⟩
      · go_wp2_with fail
        go_region_held3 (fun W => Held w A c ls W) (assumption) (first | (go_at_call 15; (with_reducible refine (d1 _ (by assumption)).mono ?_); rintro e w5 ⟨rfl, hh5⟩) | (go_at_call 15; (with_reducible refine (d2 _ (by assumption)).mono ?_); rintro e w5 ⟨rfl, hh5⟩))
        go_wp2
        go_ret
        exact ⟨ret_bool (by rw [HW.out]; exact beq_self_eq_true _), hh5.2⟩

theorem lineJoins_walk (w : World) (A0 : Option Addr) (c0 : Nat) (z0 : List ByteArray) (r0 : RowOf w A0 c0 (z0.map Value.string)) (w0 : ∀ s ∈ z0, s.size ≤ maxLen) (a1 : Int) (w1 : (Lit.int .i64 a1).wf = true) :
    Calls Try.prog 8 #[.slice A0 z0.length c0, .int .i64 a1] w fun e w' => e = .returned (.bool true) ∧ Below w.heap.size w w' := by
  have hc1 := r0.1
  have hc2 := r0.2.1
  unfold maxLen at hc2
  rw [List.length_map] at hc1
  rw [strs_of] at r0
  rw [show z0.length = (z0.map fun s => s.data.toList).length from by simp] at hc1 ⊢
  by_cases h : (z0.map fun s => s.data.toList).length ≤ 40
  · exact lineJoins_short w A0 c0 _ a1 h r0
  · exact lineJoins_long w A0 c0 _ a1 (by omega) (by omega)

end Go.Proofs.Ytkhmlnhfmlckdaa
