/-
  LineTabs: a tab goes to the next column of four; the law's walk.
-/
import Derived.Test.YtkhmlnhfmlckdaaLineR
namespace Go.Proofs.Ytkhmlnhfmlckdaa
open Go.RowKit
set_option linter.unusedSimpArgs false
set_option linter.unusedVariables false

theorem lineTabs_long1 (w : World) (n : Int) (s : ByteArray) (h : n < 0 ∨ (0 ≤ n ∧ (20 < n ∨ (n ≤ 20 ∧ 60 < s.size)))) (hl : s.size ≤ 9223372036854775807) :
    Calls Try.prog 7 #[.int .i64 n, .string s] w fun e w' => e = .returned (.bool true) ∧ Below w.heap.size w w' := by
  rcases h with h | ⟨h1, h | ⟨h2, h⟩⟩
  all_goals
    go_enter Try.func7, Try.ntmps7
    go_wp2_with (go_at_call 9; refine (alive_any _).mono ?_; rintro e w' ⟨rfl, b1⟩)
    go_ret
    exact ⟨rfl, b1⟩

theorem lineTabs_long2 (w : World) (n : Int) (s : ByteArray) (h1 : 0 ≤ n) (h2 : n ≤ 20) (h3 : s.size ≤ 60) (h0 : 0 < s.size) (h : s[0].toNat = 32 ∨ s[0].toNat = 9) :
    Calls Try.prog 7 #[.int .i64 n, .string s] w fun e w' => e = .returned (.bool true) ∧ Below w.heap.size w w' := by
  have e0 := toList_ne h0
  have e1 := toList_empty h0
  rcases h with h | h
  · have f32 : ((s[0].toNat : Int) == 32) = true := by simp; omega
    clear h
    go_enter Try.func7, Try.ntmps7
    go_wp2_with (go_at_call 9; refine (alive_any _).mono ?_; rintro e w' ⟨rfl, b1⟩)
    go_ret
    exact ⟨rfl, b1⟩
  · have f32 : ((s[0].toNat : Int) == 32) = false := by simp; omega
    have f9 : ((s[0].toNat : Int) == 9) = true := by simp; omega
    clear h
    go_enter Try.func7, Try.ntmps7
    go_wp2_with (go_at_call 9; refine (alive_any _).mono ?_; rintro e w' ⟨rfl, b1⟩)
    go_ret
    exact ⟨rfl, b1⟩

def TabRel (n : Nat) (w : World) (t i : Value) (wr : World) : Prop :=
  ∃ (k : Nat) (T : ByteArray), i = .int .i64 k ∧ k ≤ n ∧ t = .string T ∧ T.data.toList = spaces k ∧ wr = w

theorem lineTabs_body (w : World) (n : Nat) (s : ByteArray) (h2 : n ≤ 20) (h3 : s.size ≤ 60) (hs : ∀ h : 0 < s.size, ((s[0].toNat : Int) == 32) = false ∧ ((s[0].toNat : Int) == 9) = false)
    (X E : ByteArray) (hX : X.data.toList = spaces n ++ 9 :: s.data.toList) (hE : E.size ≤ 1000)
    (c1 : ∀ w1, Calls Try.prog 20 #[.string X] w1 fun e w' => e = .returned (.string E) ∧ Below w1.heap.size w1 w')
    (c2 : ∀ w1, Calls Try.prog 22 #[.string X] w1 fun e w' => e = .returned (.int .i64 ((n : Int) / 4 * 4 + 4)) ∧ Below w1.heap.size w1 w')
    (t0 : (n : Int) / 4 * 4 + 4 ≤ E.size) (t1 : ((E.size : Int) == (n : Int) / 4 * 4 + 4 + s.size) = true) (t2 : ((E.extract (n / 4 * 4 + 4) E.size).toList == s.toList) = true) :
    Calls Try.prog 7 #[.int .i64 n, .string s] w fun e w' => e = .returned (.bool true) ∧ Below w.heap.size w w' := by
  have HX := Lib.hid hX
  have H2 := Lib.hid t2
  clear hX t2
  have hcase : (∃ h : 0 < s.size, ¬ s.toList = [] ∧ s.toList.isEmpty = false ∧ ((s[0].toNat : Int) == 32) = false ∧ ((s[0].toNat : Int) == 9) = false) ∨ (s.toList = [] ∧ s.toList.isEmpty = true) := by
    by_cases h0 : 0 < s.size
    · exact Or.inl ⟨h0, toList_ne h0, toList_empty h0, hs h0⟩
    · have : s.toList = [] := by
        rw [ByteArray.toList_eq]
        exact List.eq_nil_of_length_eq_zero (by rw [Array.length_toList]; have h2 : s.data.size = s.size := rfl; omega)
      exact Or.inr ⟨this, by rw [this]; rfl⟩
  clear hs
  rcases hcase with ⟨h0, e0, e1, g1, g2⟩ | ⟨e0, e1⟩
  all_goals
    go_enter Try.func7, Try.ntmps7
    go_wp2_with fail
    refine (alive_any _).mono ?_
    rintro e w1 ⟨rfl, b1⟩
    go_wp2_with fail
    go_loopw [5, 6] (fun t i wr => TabRel n w1 t i wr) (fun _ i _ => n - (intOf i).toNat)
    case atStart => exact ⟨0, _, rfl, Nat.zero_le _, rfl, rfl, rfl⟩
    case round =>
      obtain ⟨k, T, rfl, hk, rfl, hT, rfl⟩ := hrel
      have HT := Lib.hid hT
      have hTs : T.size ≤ 1000 := by
        have := congrArg List.length hT
        simp [spaces] at this
        omega
      clear hT
      by_cases hp : k < n
      · go_wp2
        exact ⟨⟨k + 1, _, by go_num, by omega, rfl, by rw [ByteArray.data_append, Array.toList_append, HT.out]; simp [spaces, List.replicate_succ'], rfl⟩, by simp [intOf]; omega⟩
      · obtain rfl : k = n := by omega
        have HXT := Lib.hid (show T ++ ⟨#[9]⟩ ++ s = X from by
          apply ByteArray.ext
          apply Array.ext'
          rw [HX.out, ByteArray.data_append, ByteArray.data_append, Array.toList_append, Array.toList_append, HT.out]
          simp)
        go_wp2_with fail
        rw [HXT.out]
        refine (c1 _).mono ?_
        rintro e w2 ⟨rfl, b2⟩
        go_wp2_with fail
        rw [HXT.out]
        refine (c2 _).mono ?_
        rintro e w3 ⟨rfl, b3⟩
        have fw : ((k : Int) / 4 * 4 + 4).toNat = k / 4 * 4 + 4 := by omega
        go_wp2
        go_ret
        exact ⟨ret_bool (by first | exact H2.out | simpa [e0] using H2.out), (b1.then b2).then b3⟩

theorem expand_size (s : ByteArray) : (stripB s 0).size = (expandL s.data.toList).length := by
  show (stripL s.data.toList 0).toArray.size = _
  simp [expandL]

theorem lineTabs_walk (w : World) (a0 : Int) (w0 : (Lit.int .i64 a0).wf = true) (a1 : ByteArray) (w1 : a1.size ≤ maxLen) :
    Calls Try.prog 7 #[.int .i64 a0, .string a1] w fun e w' => e = .returned (.bool true) ∧ Below w.heap.size w w' := by
  unfold maxLen at w1
  by_cases h : 0 ≤ a0 ∧ a0 ≤ 20 ∧ a1.size ≤ 60
  · obtain ⟨h1, h2, h3⟩ := h
    by_cases hg : ∃ h : 0 < a1.size, a1[0].toNat = 32 ∨ a1[0].toNat = 9
    · obtain ⟨h0, hg⟩ := hg
      exact lineTabs_long2 w a0 a1 h1 h2 h3 h0 hg
    · obtain ⟨n, rfl⟩ := Int.eq_ofNat_of_zero_le h1
      have hr : mSize a1.data.toList = 0 := by
        by_cases h0 : 0 < a1.size
        · have e := get_list a1 0 h0
          rw [List.drop_zero] at e
          rw [e]
          apply mSize_other
          have h4 : ¬ (a1[0].toNat = 32 ∨ a1[0].toNat = 9) := fun h => hg ⟨h0, h⟩
          simp only [isGap, Bool.or_eq_false_iff, beq_eq_false_iff_ne]
          constructor
          · intro e; exact h4 (Or.inl (by rw [e]; rfl))
          · intro e; exact h4 (Or.inr (by rw [e]; rfl))
        · have : a1.data.toList = [] := List.eq_nil_of_length_eq_zero (by rw [Array.length_toList]; have h2 : a1.data.size = a1.size := rfl; omega)
          rw [this]; rfl
      have hcs : ∀ (j c : Nat), mCols (spaces j ++ 9 :: a1.data.toList) c = (c + j) + (4 - (c + j) % 4) ∧ mSize (spaces j ++ 9 :: a1.data.toList) = j + 1 := by
        intro j
        induction j with
        | zero =>
          intro c
          have a := mCols_le a1.data.toList (c + (4 - c % 4))
          have b := mCols_ge a1.data.toList (c + (4 - c % 4))
          rw [hr] at a
          simp only [spaces, List.replicate_zero, List.nil_append]
          rw [mCols_tab rfl, mSize_gap rfl, hr, Nat.add_zero]
          exact ⟨Nat.le_antisymm a b, rfl⟩
        | succ j ih =>
          intro c
          have ih := ih (c + 1)
          simp only [spaces, List.replicate_succ, List.cons_append] at ih ⊢
          rw [mCols_sp rfl, mSize_gap rfl, ih.1, ih.2]
          rw [show c + 1 + j = c + (j + 1) from by omega]
          exact ⟨rfl, rfl⟩
      have hX : (⟨(spaces n ++ 9 :: a1.data.toList).toArray⟩ : ByteArray).data.toList = spaces n ++ 9 :: a1.data.toList := rfl
      have hl1 : a1.data.toList.length = a1.size := by simp
      have hXs : (⟨(spaces n ++ 9 :: a1.data.toList).toArray⟩ : ByteArray).size ≤ 100 := by rw [str_size, List.length_append, List.length_cons, spaces_length, hl1]; omega
      generalize hXX : (⟨(spaces n ++ 9 :: a1.data.toList).toArray⟩ : ByteArray) = X at hX hXs
      have hE : expandL X.data.toList = spaces (n / 4 * 4 + 4) ++ a1.data.toList := by
        rw [hX, expandL, stripL, (hcs n 0).1, (hcs n 0).2]
        rw [show 0 + n + (4 - (0 + n) % 4) - 0 = n / 4 * 4 + 4 from by omega]
        congr 1
        rw [List.drop_append, spaces_length]
        rw [List.drop_of_length_le (by rw [spaces_length]; omega), show n + 1 - n = 1 from by omega]
        rfl
      have c1 := expandIs X (by omega)
      have c2 := fun w1 => indent_any X w1 (by omega)
      rw [hX, (hcs n 0).1, show ((0 + n + (4 - (0 + n) % 4) : Nat) : Int) = (n : Int) / 4 * 4 + 4 from by omega] at c2
      have hEs := expand_size X
      rw [hE, List.length_append, spaces_length, hl1] at hEs
      refine lineTabs_body w n a1 (by omega) h3 ?_ X (stripB X 0) hX (by omega) c1 c2 (by rw [hEs]; omega) (by rw [hEs]; simp) ?_
      · intro h0
        have h4 : ¬ (a1[0].toNat = 32 ∨ a1[0].toNat = 9) := fun h => hg ⟨h0, h⟩
        constructor
        · simp; omega
        · simp; omega
      · rw [beq_iff_eq, ByteArray.toList_eq, ByteArray.toList_eq, ext_bytes]
        show (List.take _ (List.drop _ (stripB X 0).data.toList)) = _
        rw [stripB_list, show stripL X.data.toList 0 = expandL X.data.toList from rfl, hE, List.drop_append_of_le_length (by rw [spaces_length]; omega), List.drop_of_length_le (by rw [spaces_length]; omega), List.nil_append]
        exact List.take_of_length_le (by omega)
  · exact lineTabs_long1 w a0 a1 (by omega) w1

end Go.Proofs.Ytkhmlnhfmlckdaa
