/-
  LineBack: lines that were joined are split as they were; a text's lines, joined, are it, or it with an LF behind; the law's walk.
-/
import Derived.Test.YtkhmlnhfmlckdaaLineN
import Derived.Test.YtkhmlnhfmlckdaaLineK
namespace Go.Proofs.Ytkhmlnhfmlckdaa
open Go.RowKit
set_option linter.unusedSimpArgs false
set_option linter.unusedVariables false

theorem split_join : ∀ ls : List (List UInt8), (∀ y ∈ ls, ∀ x ∈ y, x ≠ 10) → splitL (joinL ls) = ls
  | [], _ => rfl
  | l :: ls, h => by
    have ih := split_join ls (fun y hy => h y (by simp [hy]))
    unfold splitL at ih ⊢
    simp only [joinL]
    rw [splitFrom_more _ _ _ (h l (by simp)), List.nil_append, splitFrom_lf, ih]
theorem join_split : ∀ (l cur : List UInt8), joinL (splitFrom cur l) = cur ++ l ++ if openEnd cur l then [10] else []
  | [], cur => by
    by_cases h : cur = []
    · simp [splitFrom, joinL, openEnd, h]
    · have e : cur.isEmpty = false := by simpa using h
      simp [splitFrom, joinL, openEnd, h, e]
  | b :: l, cur => by
    by_cases h : b = 10
    · subst h
      rw [splitFrom_lf, joinL, join_split l []]
      simp [openEnd]
    · rw [splitFrom, if_neg h, join_split l _]
      simp [openEnd, h]

theorem lineBack_long (w : World) (A : Option Addr) (c : Nat) (ls : List (List UInt8)) (s : ByteArray) (h : 40 < ls.length ∨ (ls.length ≤ 40 ∧ 300 < s.size)) (hc : ls.length ≤ 9223372036854775807) (hs : s.size ≤ 9223372036854775807) :
    Calls Try.prog 4 #[.slice A ls.length c, .string s] w fun e w' => e = .returned (.bool true) ∧ Below w.heap.size w w' := by
  rcases h with h | ⟨h1, h⟩
  all_goals
    go_enter Try.func4, Try.ntmps4
    go_wp2_with (go_at_call 9; refine (alive_any _).mono ?_; rintro e w' ⟨rfl, b1⟩)
    go_ret
    exact ⟨rfl, b1⟩

/-- The lines of ls up to k are short, and hold no LF. -/
def CleanTo (ls : List (List UInt8)) (k : Nat) : Prop := ∀ y ∈ ls.take k, y.length ≤ 60 ∧ ∀ x ∈ y, x ≠ 10
def BackRel (ls : List (List UInt8)) (w : World) (i : Value) (wr : World) : Prop := ∃ k : Nat, i = .int .i64 k ∧ k ≤ ls.length ∧ CleanTo ls k ∧ wr = w
def ByteRel (X : ByteArray) (w : World) (i : Value) (wr : World) : Prop := ∃ k : Nat, i = .int .i64 k ∧ k ≤ X.size ∧ (∀ m (h : m < X.size), m < k → X[m].toNat ≠ 10) ∧ wr = w

theorem clean_step (ls : List (List UInt8)) (k : Nat) (hk : k < ls.length) (X : ByteArray) (hX : (⟨ls[k].toArray⟩ : ByteArray) = X) (h : CleanTo ls k) (hz : X.size ≤ 60) (hb : ∀ m (h : m < X.size), m < X.size → X[m].toNat ≠ 10) : CleanTo ls (k + 1) := by
  subst hX
  unfold CleanTo
  rw [List.take_succ_eq_append_getElem hk]
  intro y hy
  rw [List.mem_append, List.mem_singleton] at hy
  rcases hy with hy | rfl
  · exact h y hy
  · rw [str_size] at hz
    refine ⟨hz, fun x hx => ?_⟩
    obtain ⟨m, hm, rfl⟩ := List.mem_iff_getElem.1 hx
    have hm2 : m < (⟨ls[k].toArray⟩ : ByteArray).size := by rw [str_size]; exact hm
    have := hb m hm2 hm2
    intro e
    apply this
    have e2 : (⟨ls[k].toArray⟩ : ByteArray)[m] = ls[k][m] := rfl
    rw [e2, e]; rfl

set_option maxHeartbeats 2000000 in
theorem lineBack_short (w : World) (A : Option Addr) (c : Nat) (ls : List (List UInt8)) (s : ByteArray) (h : ls.length ≤ 40) (hs : s.size ≤ 300) (hrow : RowOf w A c (strs ls)) (hz : ∀ y ∈ ls, y.length ≤ 9223372036854775807)
    (J : ByteArray) (hJ : (⟨(joinL (splitL s.data.toList)).toArray⟩ : ByteArray) = J) (hJl : (joinL (splitL s.data.toList)).length ≤ 1000)
    (hj : (J.toList == s.toList) = true ∨ ((J.toList == s.toList) = false ∧ (J.toList == (s ++ ⟨#[10]⟩).toList) = true)) :
    Calls Try.prog 4 #[.slice A ls.length c, .string s] w fun e w' => e = .returned (.bool true) ∧ Below w.heap.size w w' := by
  have hc1 := hrow.1
  rw [strs_length] at hc1
  have hc2 := hrow.2.1
  unfold maxLen at hc2
  have HJ := Lib.hid hJ
  have HZ := Lib.hid hz
  clear hJ hz
  rcases hj with t1 | ⟨t1, t2⟩
  all_goals
    go_enter Try.func4, Try.ntmps4
    go_wp2_with fail
    refine (alive_any _).mono ?_
    rintro e w1 ⟨rfl, b1⟩
    have hrow1 := hrow.below b1
    go_wp2_with fail
    go_loopw [24] (fun i wr => BackRel ls w1 i wr) (fun i _ => ls.length - (intOf i).toNat)
    case atStart => exact ⟨0, rfl, Nat.zero_le _, fun y hy => by simp at hy, rfl⟩
    case round =>
      obtain ⟨k, rfl, hk, hcl, rfl⟩ := hrel
      have HC := Lib.hid hcl
      clear hcl
      by_cases hp : k < ls.length
      · obtain ⟨b, off, rfl, hb, hcell⟩ := hrow1.cellAt hp
        have hXz := HZ.out ls[k] (List.getElem_mem hp)
        rw [← str_size] at hXz
        generalize hX : (⟨ls[k].toArray⟩ : ByteArray) = X at *
        have HX := Lib.hid hX
        clear hX
        by_cases hx : 60 < X.size
        · go_wp2
          go_ret
          exact ⟨rfl, b1⟩
        · have hx2 : X.size ≤ 60 := by omega
          clear hx
          go_wp2_with fail
          go_loopw [7] (fun i wr' => ByteRel X wr i wr') (fun i _ => X.size - (intOf i).toNat)
          case atStart => exact ⟨0, rfl, Nat.zero_le _, fun m _ hm => absurd hm (Nat.not_lt_zero _), rfl⟩
          case round =>
            obtain ⟨m, rfl, hm, hby, rfl⟩ := hrel
            have HBy := Lib.hid hby
            clear hby
            by_cases hp3 : m < X.size
            · by_cases h10 : X[m].toNat = 10
              · have f10 : ((X[m].toNat : Int) == 10) = true := by simp; omega
                clear h10
                go_wp2
                go_ret
                exact ⟨rfl, b1⟩
              · have f10 : ((X[m].toNat : Int) == 10) = false := by simp; omega
                have H10 := Lib.hid h10
                clear h10
                go_wp2
                refine ⟨⟨m + 1, by go_num, by omega, fun q hq hq2 => ?_, rfl⟩, by simp [intOf]; omega⟩
                by_cases e : q = m
                · subst e; exact H10.out
                · exact HBy.out q hq (by omega)
            · obtain rfl : m = X.size := by omega
              go_wp2
              exact ⟨⟨k + 1, by go_num, by omega, clean_step ls k hp X HX.out HC.out hx2 HBy.out, rfl⟩, by simp [intOf]; omega⟩
      · obtain rfl : k = ls.length := by omega
        have hcl := HC.out
        unfold CleanTo at hcl
        rw [List.take_length] at hcl
        have hsj := split_join ls (fun y hy => (hcl y hy).2)
        have hjn : (joinL ls).length ≤ 10000 := by
          rw [joinN_eq]
          have := joinN_le ls 60 (fun y hy => (hcl y hy).1)
          omega
        have HSJ := Lib.hid hsj
        clear hcl hsj
        go_wp2_with fail
        refine (split_any s _ (by omega)).mono ?_
        rintro e w2 ⟨v, rfl, hown, b2⟩
        obtain ⟨A2, cap2, rfl, hrow2, _⟩ := RowOf.own hown
        go_wp2_with fail
        refine (join_any A2 cap2 _ w2 hrow2 (by omega)).mono ?_
        rintro e w3 ⟨rfl, b3⟩
        have hrow3 := (hrow1.below b2).below b3
        rw [HJ.out]
        go_wp2_with fail
        refine (join_any A c ls w3 hrow3 (by omega)).mono ?_
        rintro e w4 ⟨rfl, b4⟩
        have cs := split_any ⟨(joinL ls).toArray⟩ w4 (by rw [str_size]; omega)
        rw [show (⟨(joinL ls).toArray⟩ : ByteArray).data.toList = joinL ls from rfl, HSJ.out] at cs
        go_wp2_with fail
        refine cs.mono ?_
        rintro e w5 ⟨v5, rfl, hown5, b5⟩
        obtain ⟨A5, cap5, rfl, hrow5, _⟩ := RowOf.own hown5
        have hrow6 := (hrow3.below b4).below b5
        have cm := same_any A5 A cap5 c ls ls w5 hrow5 hrow6
        rw [decide_eq_true (rfl : ls = ls)] at cm
        go_wp2_with fail
        refine cm.mono ?_
        rintro e w6 ⟨rfl, n6, rfl⟩
        go_wp2
        go_ret
        exact ⟨rfl, below_drewN' ((((b1.then b2).then b3).then b4).then b5) n6⟩

theorem lineBack_walk (w : World) (A0 : Option Addr) (c0 : Nat) (z0 : List ByteArray) (r0 : RowOf w A0 c0 (z0.map Value.string)) (w0 : ∀ s ∈ z0, s.size ≤ maxLen) (a1 : ByteArray) (w1 : a1.size ≤ maxLen) :
    Calls Try.prog 4 #[.slice A0 z0.length c0, .string a1] w fun e w' => e = .returned (.bool true) ∧ Below w.heap.size w w' := by
  have hc1 := r0.1
  have hc2 := r0.2.1
  unfold maxLen at hc2 w1 w0
  rw [List.length_map] at hc1
  rw [strs_of] at r0
  have hz : ∀ y ∈ (z0.map fun s => s.data.toList), y.length ≤ 9223372036854775807 := by
    intro y hy
    obtain ⟨s, hs, rfl⟩ := List.mem_map.1 hy
    have := w0 s hs
    have h2 : s.data.toList.length = s.size := by simp
    omega
  rw [show z0.length = (z0.map fun s => s.data.toList).length from by simp] at hc1 ⊢
  generalize (z0.map fun s => s.data.toList) = ls at *
  by_cases h : ls.length ≤ 40 ∧ a1.size ≤ 300
  · have hl : a1.data.toList.length = a1.size := by simp
    have hjs := join_split a1.data.toList []
    rw [List.nil_append] at hjs
    have hJ : (⟨(joinL (splitL a1.data.toList)).toArray⟩ : ByteArray).data.toList = joinL (splitL a1.data.toList) := rfl
    refine lineBack_short w A0 c0 ls a1 h.1 h.2 r0 hz _ rfl ?_ ?_
    · unfold splitL
      rw [hjs, List.length_append]
      split <;> simp <;> omega
    · simp only [ByteArray.toList_eq, beq_iff_eq, beq_eq_false_iff_ne, ByteArray.data_append, Array.toList_append]
      unfold splitL
      rw [hjs]
      cases ho : openEnd [] a1.data.toList with
      | true => refine Or.inr ⟨?_, by simp⟩; simp
      | false => exact Or.inl (by simp)
  · exact lineBack_long w A0 c0 ls a1 (by omega) (by omega) w1

end Go.Proofs.Ytkhmlnhfmlckdaa
