/-
  LineCounts: a text has as many lines as LFs, and one more if something stands behind the last; the law's walk.
-/
import Derived.Test.YtkhmlnhfmlckdaaLineAl
namespace Go.Proofs.Ytkhmlnhfmlckdaa
open Go.RowKit
set_option linter.unusedSimpArgs false
set_option linter.unusedVariables false

def lfs (l : List UInt8) : Nat := (l.filter fun b => b == 10).length
theorem lfs_le (l : List UInt8) : lfs l ≤ l.length := List.length_filter_le _ l
theorem lfs_take (l : List UInt8) (k : Nat) (h : k < l.length) : lfs (l.take (k + 1)) = lfs (l.take k) + if l[k] = 10 then 1 else 0 := by
  unfold lfs
  rw [List.take_succ_eq_append_getElem h, List.filter_append, List.length_append]
  by_cases e : l[k] = 10 <;> simp [List.filter_cons, e]

/-- Is a line open at the end? -/
def openEnd : List UInt8 → List UInt8 → Bool
  | cur, [] => !cur.isEmpty
  | cur, b :: l => if b = 10 then openEnd [] l else openEnd (cur ++ [b]) l
theorem split_count : ∀ (l cur : List UInt8), (splitFrom cur l).length = lfs l + if openEnd cur l then 1 else 0
  | [], cur => by
    by_cases h : cur = []
    · simp [splitFrom, lfs, openEnd, h]
    · simp [splitFrom, lfs, openEnd, h]
  | b :: l, cur => by
    by_cases h : b = 10
    · subst h
      rw [splitFrom_lf, List.length_cons, split_count l []]
      simp [lfs, openEnd]; omega
    · rw [splitFrom, if_neg h, split_count l _]
      simp [lfs, openEnd, h]
theorem openEnd_last : ∀ (l cur : List UInt8), l ≠ [] → openEnd cur l = !(l.getLast? == some 10)
  | [], _, h => absurd rfl h
  | [b], cur, _ => by
    by_cases h : b = 10
    · simp [openEnd, h]
    · have e1 : (cur ++ [b]).isEmpty = false := by simp
      have e2 : (b == 10) = false := by simpa using h
      simp [openEnd, h, e1, e2]
  | b :: c :: l, cur, _ => by
    have h1 : (b :: c :: l).getLast? = (c :: l).getLast? := by simp [List.getLast?_cons_cons]
    rw [h1, ← openEnd_last (c :: l) (if b = 10 then [] else cur ++ [b]) (by simp)]
    by_cases h : b = 10 <;> simp [openEnd, h]
theorem split_noLF : ∀ (l cur : List UInt8), (∀ x ∈ cur, x ≠ 10) → ∀ y ∈ splitFrom cur l, ∀ x ∈ y, x ≠ 10
  | [], cur, h, y, hy => by
    by_cases e : cur = []
    · simp [splitFrom, e] at hy
    · simp [splitFrom, e] at hy
      subst hy; exact h
  | b :: l, cur, h, y, hy => by
    by_cases e : b = 10
    · subst e
      rw [splitFrom_lf, List.mem_cons] at hy
      rcases hy with rfl | hy
      · exact h
      · exact split_noLF l [] (by simp) y hy
    · rw [splitFrom, if_neg e] at hy
      refine split_noLF l _ ?_ y hy
      intro x hx
      rw [List.mem_append, List.mem_singleton] at hx
      rcases hx with hx | rfl
      · exact h x hx
      · exact e

theorem lineCounts_long (w : World) (s : ByteArray) (h : 400 < s.size) (hc : s.size ≤ 9223372036854775807) :
    Calls Try.prog 6 #[.string s] w fun e w' => e = .returned (.bool true) ∧ Below w.heap.size w w' := by
  go_enter Try.func6, Try.ntmps6
  go_wp2_with (go_at_call 9; refine (alive_any _).mono ?_; rintro e w' ⟨rfl, b1⟩)
  go_ret
  exact ⟨rfl, b1⟩

def lfsTo (s : ByteArray) (k : Nat) : Nat := lfs (s.data.toList.take k)
theorem lfsTo_step (s : ByteArray) (k : Nat) (h : k < s.size) : lfsTo s (k + 1) = lfsTo s k + if s[k].toNat = 10 then 1 else 0 := by
  unfold lfsTo
  rw [lfs_take _ k (by simpa using h)]
  have e : s.data.toList[k]'(by simpa using h) = s[k] := rfl
  rw [e]
  congr 1
  by_cases h1 : s[k] = 10
  · simp [h1]
  · rw [if_neg h1, if_neg]
    intro h2
    exact h1 (UInt8.toNat_inj.1 (by simpa using h2))
theorem lfsTo_le (s : ByteArray) (k : Nat) : lfsTo s k ≤ k := by
  unfold lfsTo
  have := lfs_le (s.data.toList.take k)
  rw [List.length_take] at this
  omega

def CountRel (s : ByteArray) (w : World) (n i : Value) (wr : World) : Prop := ∃ k : Nat, i = .int .i64 k ∧ k ≤ s.size ∧ n = .int .i64 (lfsTo s k) ∧ wr = w
/-- Is there one more line than LFs? -/
def oneMore (s : ByteArray) : Bool := openEnd [] s.data.toList

theorem count_last (s : ByteArray) (h0 : 0 < s.size) : (splitL s.data.toList).length = lfsTo s s.size + if s[s.size - 1].toNat = 10 then 0 else 1 := by
  have hl : s.data.toList.length = s.size := by simp
  have hne : s.data.toList ≠ [] := by intro e; rw [e] at hl; simp at hl; omega
  unfold splitL
  rw [split_count, openEnd_last _ _ hne]
  have e : s.data.toList.getLast? = some s[s.size - 1] := by
    rw [List.getLast?_eq_getElem?, hl, List.getElem?_eq_getElem (by rw [hl]; omega)]
    rfl
  rw [e]
  unfold lfsTo
  rw [List.take_of_length_le (by omega)]
  by_cases h1 : s[s.size - 1] = 10
  · simp [h1]
  · have h2 : ¬ s[s.size - 1].toNat = 10 := fun h2 => h1 (UInt8.toNat_inj.1 (by simpa using h2))
    simp [h1, h2]
theorem count_empty (s : ByteArray) (h0 : ¬ 0 < s.size) : (splitL s.data.toList).length = lfsTo s s.size := by
  have : s.data.toList = [] := List.eq_nil_of_length_eq_zero (by rw [Array.length_toList]; have h2 : s.data.size = s.size := rfl; omega)
  unfold lfsTo
  rw [this, List.take_nil]
  rfl
theorem split_member : ∀ (l cur : List UInt8), ∀ y ∈ splitFrom cur l, y.length ≤ cur.length + l.length
  | [], cur, y, hy => by
    by_cases e : cur = []
    · simp [splitFrom, e] at hy
    · simp [splitFrom, e] at hy
      subst hy; simp
  | b :: l, cur, y, hy => by
    by_cases e : b = 10
    · subst e
      rw [splitFrom_lf, List.mem_cons] at hy
      rcases hy with rfl | hy
      · omega
      · have := split_member l [] y hy
        simp at this ⊢; omega
    · rw [splitFrom, if_neg e] at hy
      have := split_member l _ y hy
      simp at this ⊢; omega

theorem line_bytes (l : List UInt8) (h : ∀ x ∈ l, x ≠ 10) (m : Nat) (hm : m < (⟨l.toArray⟩ : ByteArray).size) : (((⟨l.toArray⟩ : ByteArray)[m].toNat : Int) == 10) = false := by
  have h1 : m < l.length := by rw [str_size] at hm; exact hm
  have e : (⟨l.toArray⟩ : ByteArray)[m] = l[m] := rfl
  rw [e]
  have := h l[m] (List.getElem_mem h1)
  simp only [beq_eq_false_iff_ne, ne_eq]
  intro h2
  exact this (UInt8.toNat_inj.1 (by simp; omega))
def WalkRel (n : Nat) (w : World) (i : Value) (wr : World) : Prop := ∃ k : Nat, i = .int .i64 k ∧ k ≤ n ∧ wr = w

set_option maxHeartbeats 2000000 in
theorem lineCounts_short (w : World) (s : ByteArray) (h : s.size ≤ 400) (L : List (List UInt8)) (hno : ∀ y ∈ L, y.length ≤ 400 ∧ ∀ x ∈ y, x ≠ 10) (hL : L.length ≤ 401)
    (cs : ∀ w1, Calls Try.prog 10 #[.string s] w1 fun e w' => ∃ v, e = .returned v ∧ w'.ownsRow w1.heap.size 9 1 v L.length (strs L) ∧ Below w1.heap.size w1 w')
    (hc : (s.toList = [] ∧ s.toList.isEmpty = true ∧ ((L.length : Int) == lfsTo s s.size) = true) ∨
      (∃ h0 : 0 < s.size, ¬ s.toList = [] ∧ s.toList.isEmpty = false ∧ (1 : Int) ≤ s.size ∧ ((s[s.size - 1].toNat : Int) != 10) = true ∧ ((L.length : Int) == (lfsTo s s.size : Int) + 1) = true) ∨
      (∃ h0 : 0 < s.size, ¬ s.toList = [] ∧ s.toList.isEmpty = false ∧ (1 : Int) ≤ s.size ∧ ((s[s.size - 1].toNat : Int) != 10) = false ∧ ((L.length : Int) == lfsTo s s.size) = true)) :
    Calls Try.prog 6 #[.string s] w fun e w' => e = .returned (.bool true) ∧ Below w.heap.size w w' := by
  have HN := Lib.hid hno
  clear hno
  rcases hc with ⟨e0, e1, f1⟩ | ⟨h0, e0, e1, h1, f0, f1⟩ | ⟨h0, e0, e1, h1, f0, f1⟩
  all_goals
    go_enter Try.func6, Try.ntmps6
    go_wp2_with fail
    refine (alive_any _).mono ?_
    rintro e w1 ⟨rfl, b1⟩
    go_wp2_with fail
    go_loopw [3, 4] (fun n i wr => CountRel s w1 n i wr) (fun _ i _ => s.size - (intOf i).toNat)
    case atStart => exact ⟨0, rfl, Nat.zero_le _, rfl, rfl⟩
    case round =>
      obtain ⟨k, rfl, hk, rfl, rfl⟩ := hrel
      have hle := lfsTo_le s k
      by_cases hp : k < s.size
      · have HS := Lib.hid (lfsTo_step s k hp)
        by_cases h10 : s[k].toNat = 10
        · have f10 : ((s[k].toNat : Int) == 10) = true := by simp; omega
          have HK := Lib.hid h10
          clear h10
          go_wp2
          exact ⟨⟨k + 1, by go_num, by omega, by rw [HS.out, if_pos HK.out]; go_num, rfl⟩, by simp [intOf]; omega⟩
        · have f10 : ((s[k].toNat : Int) == 10) = false := by simp; omega
          have HK := Lib.hid h10
          clear h10
          go_wp2
          exact ⟨⟨k + 1, by go_num, by omega, by rw [HS.out, if_neg HK.out]; go_num, rfl⟩, by simp [intOf]; omega⟩
      · obtain rfl : k = s.size := by omega
        go_wp2_with fail
        refine (cs _).mono ?_
        rintro e w2 ⟨v, rfl, hown, b2⟩
        obtain ⟨A, cap, rfl, hrow, _⟩ := RowOf.own hown
        go_wp2_with fail
        go_loopw [45] (fun i wr => WalkRel L.length w2 i wr) (fun i _ => L.length - (intOf i).toNat)
        case atStart => exact ⟨0, rfl, Nat.zero_le _, rfl⟩
        case round =>
          obtain ⟨k, rfl, hk, rfl⟩ := hrel
          by_cases hp2 : k < L.length
          · obtain ⟨b, off, rfl, hb, hcell⟩ := hrow.cellAt hp2
            have HB := Lib.hid (line_bytes L[k] (HN.out L[k] (List.getElem_mem hp2)).2)
            have hz := (HN.out L[k] (List.getElem_mem hp2)).1
            rw [← str_size] at hz
            generalize (⟨L[k].toArray⟩ : ByteArray) = X at *
            go_wp2_with fail
            go_loopw [8] (fun i w' => WalkRel X.size wr i w') (fun i _ => X.size - (intOf i).toNat)
            case atStart => exact ⟨0, rfl, Nat.zero_le _, rfl⟩
            case round =>
              obtain ⟨m, rfl, hm, rfl⟩ := hrel
              by_cases hp3 : m < X.size
              · have f10 := HB.out m hp3
                go_wp2
                exact ⟨⟨m + 1, by go_num, by omega, rfl⟩, by simp [intOf]; omega⟩
              · obtain rfl : m = X.size := by omega
                go_wp2
                exact ⟨⟨k + 1, by go_num, by omega, rfl⟩, by simp [intOf]; omega⟩
          · obtain rfl : k = L.length := by omega
            go_wp2
            go_ret
            exact ⟨rfl, b1.then b2⟩

theorem lineCounts_walk (w : World) (a0 : ByteArray) (w0 : a0.size ≤ maxLen) :
    Calls Try.prog 6 #[.string a0] w fun e w' => e = .returned (.bool true) ∧ Below w.heap.size w w' := by
  unfold maxLen at w0
  by_cases h : a0.size ≤ 400
  · have hl : a0.data.toList.length = a0.size := by simp
    have hall : ∀ y ∈ splitL a0.data.toList, y.length ≤ 400 ∧ ∀ x ∈ y, x ≠ 10 := fun y hy =>
      ⟨by have := split_member a0.data.toList [] y hy; simp at this; omega, split_noLF a0.data.toList [] (by simp) y hy⟩
    have hle := lfsTo_le a0 a0.size
    have hcount : (splitL a0.data.toList).length ≤ 401 := by
      by_cases h0 : 0 < a0.size
      · rw [count_last a0 h0]; split <;> omega
      · rw [count_empty a0 h0]; omega
    refine lineCounts_short w a0 h _ hall hcount (fun w1 => split_any a0 w1 (by omega)) ?_
    by_cases h0 : 0 < a0.size
    · by_cases h1 : a0[a0.size - 1].toNat = 10
      · refine Or.inr (Or.inr ⟨h0, toList_ne h0, toList_empty h0, by omega, by simp; omega, ?_⟩)
        rw [count_last a0 h0, if_pos h1]; simp
      · refine Or.inr (Or.inl ⟨h0, toList_ne h0, toList_empty h0, by omega, by simp; omega, ?_⟩)
        rw [count_last a0 h0, if_neg h1]; simp
    · have h1 : a0.toList = [] := by
        rw [ByteArray.toList_eq]
        exact List.eq_nil_of_length_eq_zero (by omega)
      refine Or.inl ⟨h1, by rw [h1]; rfl, ?_⟩
      rw [count_empty a0 h0]; simp
  · exact lineCounts_long w a0 (by omega) w0

end Go.Proofs.Ytkhmlnhfmlckdaa
