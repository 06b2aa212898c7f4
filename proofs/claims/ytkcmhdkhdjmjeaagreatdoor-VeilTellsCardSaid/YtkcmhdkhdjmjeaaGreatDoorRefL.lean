/-
  The document's own answers of the layer line: Split, Join, gap, Blank.
-/
import Derived.Test.YtkcmhdkhdjmjeaaGreatDoorLineS
import Derived.Test.YtkcmhdkhdjmjeaaGreatDoorLineJ
namespace Go.Proofs.YtkcmhdkhdjmjeaaGreatDoor
open Go.RowKit
set_option linter.unusedSimpArgs false
set_option linter.unusedVariables false

theorem cells_one' (w : World) (u : Value) (t : TypeId) : ∀ (j : Nat) (x : Value), [u][j]? = some x → (w.alloc (.cells #[u] t)).cell? ((⟨w.heap.size, 0, none⟩ : Addr).add j) = some x := by
  intro j x hj
  match j, hj with
  | 0, hj =>
    simp at hj
    subst hj
    rw [addr_add, cell_of_row _ _ 0 #[u] t (0, 0) (heap_alloc_new w _)]
    rfl
theorem take_next (s : ByteArray) (g k : Nat) (hg : g ≤ k) (hk : k < s.size) : (s.data.toList.drop g).take (k + 1 - g) = (s.data.toList.drop g).take (k - g) ++ [s[k]] := by
  have hl : s.data.toList.length = s.size := by simp
  rw [show k + 1 - g = (k - g) + 1 from by omega, List.take_succ_eq_append_getElem (by rw [List.length_drop]; omega), List.getElem_drop]
  have e : g + (k - g) = k := by omega
  simp only [e]
  rfl
def RSplitRel (s : ByteArray) (w : World) (v b i : Value) (wr : World) : Prop :=
  ∃ (k g : Nat) (ls : List (List UInt8)), i = .int .i64 k ∧ b = .int .i64 g ∧ k ≤ s.size ∧ g ≤ k ∧ ls.length ≤ k ∧ Below w.heap.size w wr ∧
    wr.ownsRow w.heap.size 9 1 v ls.length (strs ls) ∧ ls ++ splitFrom ((s.data.toList.drop g).take (k - g)) (s.data.toList.drop k) = splitL s.data.toList

set_option maxHeartbeats 4000000 in
theorem rsplit_any (s : ByteArray) (w : World) (hs : s.size ≤ 4398046511104) :
    Calls Tryz.prog 49 #[.string s] w fun e w' => ∃ v, e = .returned v ∧ w'.ownsRow w.heap.size 9 1 v (splitL s.data.toList).length (strs (splitL s.data.toList)) ∧ Below w.heap.size w w' := by
  obtain ⟨i0, hi, hz0, hz1, hz2⟩ := info_parts infoString
  go_enter Tryz.func49, Tryz.ntmps49
  go_wp2_with fail
  go_loopw [3, 4, 5] (fun v b i wr => RSplitRel s w v b i wr) (fun _ _ i _ => s.size - (intOf i).toNat)
  case atStart => exact ⟨0, 0, [], rfl, rfl, Nat.zero_le _, Nat.le_refl _, Nat.le_refl _, Below.refl _ w, World.ownsRow_nil _ _ _ _, by simp [splitL]⟩
  case round =>
    obtain ⟨k, g, ls, rfl, rfl, hk, hgk, hll, hbw, hown, hls⟩ := hrel
    have hsz := hbw.size
    by_cases hp : k < s.size
    · have hlist := get_list s k hp
      rw [hlist] at hls
      by_cases hb10 : s[k] = 10
      · rw [hb10, splitFrom_lf] at hls
        have f10 : ((s[k].toNat : Int) == 10) = true := by simp [hb10]
        have HX := Lib.hid (ext_bytes s g k)
        have HF := Lib.hid (show (ls ++ [(s.data.toList.drop g).take (k - g)]) ++ splitFrom ((s.data.toList.drop (k + 1)).take (k + 1 - (k + 1))) (s.data.toList.drop (k + 1)) = splitL s.data.toList from by
          rw [← hls]; simp)
        have HU := Lib.hid (show (strs ls ++ [Value.string (s.extract g k)]) = strs (ls ++ [(s.data.toList.drop g).take (k - g)]) from by rw [strs_append, strs_one, HX.out])
        clear hls hlist hb10
        go_wp2_with (at_builtin; refine wpList_append_own _ rfl _ _ 22 rfl w.heap.size 9 i0 (.string ByteArray.empty) 1 16 Tryz.underlying22 hi hz0 hz1 hz2 rfl (by decide) _ _ _ rfl (hown.alloc _) ⟨wr.heap.size, 0, none⟩ 1 1 [.string (s.extract g k)] rfl rfl ?c1 ?c2 ?c3 ?c4 ?c5 ?_)
        case c1 => exact cells_one' wr _ _
        case c2 => intro u hu; simp at hu; subst hu; rfl
        case c3 => unfold maxLen; omega
        case c4 => omega
        case c5 => simp; omega
        · intro v' w2 hown' hgrow _
          have hbw3 := (hbw.alloc (by omega) _).grown hgrow (by simp; omega) (fun k hk => (hown.lt k hk).1)
          rw [HU.out] at hown'
          have hown'' : w2.ownsRow w.heap.size 9 1 v' (ls ++ [(s.data.toList.drop g).take (k - g)]).length (strs (ls ++ [(s.data.toList.drop g).take (k - g)])) := by rw [List.length_append]; exact hown'
          have HO := Lib.hid hown''
          clear hown' hgrow hown'' hown
          go_wp2
          go_roundw
          case rel => exact ⟨k + 1, k + 1, _, by go_num, by go_num, by omega, by omega, by rw [List.length_append]; simp; omega, hbw3, HO.out, HF.out⟩
          case measure => simp [intOf]; omega
      · have f10 : ((s[k].toNat : Int) == 10) = false := by
          simp only [beq_eq_false_iff_ne, ne_eq]
          intro e
          exact hb10 (UInt8.toNat_inj.1 (by simp; omega))
        have HF := Lib.hid (show ls ++ splitFrom ((s.data.toList.drop g).take (k + 1 - g)) (s.data.toList.drop (k + 1)) = splitL s.data.toList from by
          rw [← hls, splitFrom, if_neg hb10]
          rw [take_next s g k hgk hp])
        clear hls hlist hb10
        go_wp2
        go_roundw
        case rel => exact ⟨k + 1, g, ls, by go_num, rfl, by omega, by omega, by omega, hbw, hown, HF.out⟩
        case measure => simp [intOf]; omega
    · have e : s.data.toList.drop k = [] := List.drop_eq_nil_of_le (by simp; omega)
      obtain rfl : k = s.size := by omega
      rw [e] at hls
      by_cases hgs : g < s.size
      · have hne : (s.data.toList.drop g).take (s.size - g) ≠ [] := by
          intro e1
          have := congrArg List.length e1
          simp at this
          omega
        rw [splitFrom, if_neg hne] at hls
        have HX := Lib.hid (ext_bytes s g s.size)
        have HU := Lib.hid (show (strs ls ++ [Value.string (s.extract g s.size)]) = strs (splitL s.data.toList) from by rw [← hls, strs_append, strs_one, HX.out])
        have HN := Lib.hid (show ls.length + 1 = (splitL s.data.toList).length from by rw [← hls, List.length_append]; rfl)
        clear hls hne e
        go_wp2_with (at_builtin; refine wpList_append_own _ rfl _ _ 22 rfl w.heap.size 9 i0 (.string ByteArray.empty) 1 16 Tryz.underlying22 hi hz0 hz1 hz2 rfl (by decide) _ _ _ rfl (hown.alloc _) ⟨wr.heap.size, 0, none⟩ 1 1 [.string (s.extract g s.size)] rfl rfl ?d1 ?d2 ?d3 ?d4 ?d5 ?_)
        case d1 => exact cells_one' wr _ _
        case d2 => intro u hu; simp at hu; subst hu; rfl
        case d3 => unfold maxLen; omega
        case d4 => omega
        case d5 => simp; omega
        · intro v' w2 hown' hgrow _
          have hbw3 := (hbw.alloc (by omega) _).grown hgrow (by simp; omega) (fun k hk => (hown.lt k hk).1)
          rw [HU.out, HN.out] at hown'
          have HO := Lib.hid hown'
          clear hown' hgrow
          go_wp2
          go_ret
          exact ⟨v', rfl, HO.out, hbw3⟩
      · obtain rfl : g = s.size := by omega
        have e2 : (s.data.toList.drop s.size).take (s.size - s.size) = [] := by simp
        rw [e2, splitFrom, if_pos rfl, List.append_nil] at hls
        subst hls
        clear e e2
        go_wp2
        go_ret
        exact ⟨_, rfl, hown, hbw⟩

def RJoinRel (ls : List (List UInt8)) (w : World) (o i : Value) (wr : World) : Prop :=
  ∃ (k : Nat) (O : ByteArray), i = .int .i64 k ∧ k ≤ ls.length ∧ o = .string O ∧ O.data.toList = joinL (ls.take k) ∧ wr = w

set_option maxHeartbeats 2000000 in
theorem rjoin_any (A : Option Addr) (cap : Nat) (ls : List (List UInt8)) (w : World) (hrow : RowOf w A cap (strs ls)) (hlen : (joinL ls).length ≤ 1000000) :
    Calls Tryz.prog 51 #[.slice A ls.length cap] w fun e w' => e = .returned (.string ⟨(joinL ls).toArray⟩) ∧ w = w' := by
  have hl1 := hrow.1
  have hl2 := hrow.2.1
  rw [strs_length] at hl1
  unfold maxLen at hl2
  go_enter Tryz.func51, Tryz.ntmps51
  go_wp2_with fail
  go_loopw [3, 4] (fun o i wr => RJoinRel ls w o i wr) (fun _ i _ => ls.length - (intOf i).toNat)
  case atStart => exact ⟨0, _, rfl, Nat.zero_le _, rfl, rfl, rfl⟩
  case round =>
    obtain ⟨k, O, rfl, hk, rfl, hO, rfl⟩ := hrel
    have hOs : O.size = (joinL (ls.take k)).length := by rw [← hO]; simp
    have h1 := joinL_le ls k
    have HO := Lib.hid hO
    by_cases hp : k < ls.length
    · obtain ⟨b, off, rfl, hb, hcell⟩ := hrow.cellAt hp
      have HJ := Lib.hid (joinL_take ls k hp)
      have h2 := joinL_le ls (k + 1)
      rw [HJ.out] at h2
      simp only [List.length_append, List.length_cons, List.length_nil] at h2
      have hX := str_size ls[k]
      have hXl : (⟨ls[k].toArray⟩ : ByteArray).data.toList = ls[k] := rfl
      generalize (⟨ls[k].toArray⟩ : ByteArray) = X at *
      have hz1 : O.size + X.size ≤ 1000000 := by omega
      have HX := Lib.hid hXl
      clear hO hOs hX hXl
      go_wp2
      exact ⟨⟨k + 1, _, by go_num, by omega, rfl, by rw [HJ.out, ByteArray.data_append, ByteArray.data_append, Array.toList_append, Array.toList_append, HO.out, HX.out], rfl⟩, by simp [intOf]; omega⟩
    · obtain rfl : k = ls.length := by omega
      have HT := Lib.hid (show O = ⟨(joinL ls).toArray⟩ from by
        apply ByteArray.ext
        apply Array.ext'
        rw [hO, List.take_length])
      clear hO hOs
      go_wp2
      go_ret
      exact ⟨ret_string HT.out, rfl⟩

theorem gap_any (c : UInt8) (w : World) :
    Calls Tryz.prog 108 #[.int .u8 c.toNat] w fun e w' => e = .returned (.bool (isGap c)) ∧ w = w' := by
  by_cases h : c = 32
  · have f : ((c.toNat : Int) == 32) = true := by simp [h]
    have HG := Lib.hid (show isGap c = true from by rw [h]; rfl)
    clear h
    go_enter Tryz.func108, Tryz.ntmps108
    go_wp2
    go_ret
    exact ⟨ret_bool (by rw [HG.out]), rfl⟩
  · have f : ((c.toNat : Int) == 32) = false := by
      simp only [beq_eq_false_iff_ne, ne_eq]
      intro e
      exact h (UInt8.toNat_inj.1 (by simp; omega))
    by_cases h9 : c = 9
    · have f9 : ((c.toNat : Int) == 9) = true := by simp [h9]
      have HG := Lib.hid (show isGap c = true from by rw [h9]; rfl)
      clear h h9
      go_enter Tryz.func108, Tryz.ntmps108
      go_wp2
      go_ret
      exact ⟨ret_bool (by rw [HG.out]), rfl⟩
    · have f9 : ((c.toNat : Int) == 9) = false := by
        simp only [beq_eq_false_iff_ne, ne_eq]
        intro e
        exact h9 (UInt8.toNat_inj.1 (by simp; omega))
      have HG := Lib.hid (show isGap c = false from by simp [isGap, h, h9])
      clear h h9
      go_enter Tryz.func108, Tryz.ntmps108
      go_wp2
      go_ret
      exact ⟨ret_bool (by rw [HG.out]), rfl⟩

end Go.Proofs.YtkcmhdkhdjmjeaaGreatDoor
