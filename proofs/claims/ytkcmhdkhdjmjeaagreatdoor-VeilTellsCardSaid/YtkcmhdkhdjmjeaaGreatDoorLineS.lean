/-
  Package line: Split: a list of its own, that holds the text's lines.
-/
import Derived.Test.YtkcmhdkhdjmjeaaGreatDoorLineP
import Derived.Test.YtkcmhdkhdjmjeaaGreatDoorBase
namespace Go.Proofs.YtkcmhdkhdjmjeaaGreatDoor
open Go.RowKit
set_option linter.unusedSimpArgs false
set_option linter.unusedVariables false

def SplitRel (s : ByteArray) (w : World) (I : Nat) (v b : Value) (wr : World) : Prop :=
  ∃ (k g : Nat) (ls : List (List UInt8)), b = .int .i64 g ∧ k ≤ s.size ∧ g ≤ k ∧ ls.length ≤ k ∧ wr.heap[I]? = some (.stringIter s k) ∧ Below w.heap.size w wr ∧ w.heap.size < wr.heap.size ∧
    wr.ownsRow w.heap.size 9 1 v ls.length (strs ls) ∧ ls ++ splitFrom ((s.data.toList.drop g).take (k - g)) (s.data.toList.drop k) = splitL s.data.toList

set_option maxHeartbeats 4000000 in
theorem split_any (s : ByteArray) (w : World) (hs : s.size ≤ 4398046511104) :
    Calls Tryz.prog 31 #[.string s] w fun e w' => ∃ v, e = .returned v ∧ w'.ownsRow w.heap.size 9 1 v (splitL s.data.toList).length (strs (splitL s.data.toList)) ∧ Below w.heap.size w w' := by
  obtain ⟨i0, hi, hz0, hz1, hz2⟩ := info_parts infoString
  go_enter Tryz.func31, Tryz.ntmps31
  go_wp2_with fail
  go_loopw [3, 4] (fun v b wr => SplitRel s w w.heap.size v b wr) (fun _ _ wr => s.size - wr.iterPos w.heap.size)
  case atStart => exact ⟨0, 0, [], rfl, Nat.zero_le _, Nat.le_refl _, Nat.le_refl _, World.iter_heap w s 0, (Below.refl _ w).alloc (Nat.le_refl _) _, (by show _ < (w.heap.push _).size; simp), World.ownsRow_nil _ _ _ _, by simp [splitL]⟩
  case round =>
    obtain ⟨k, g, ls, rfl, hk, hgk, hll, hit, hbw, hsz, hown, hls⟩ := hrel
    by_cases hp : k < s.size
    · have hnx0 : ∀ ty, (Instr.next (.pointer (some ⟨w.heap.size, 0, none⟩)) true ty).run Tryz.prog wr = _ := fun ty => Lib.run_next_any_at wr w.heap.size s k ty hit hp
      have hit2 := Lib.iterAt_heap wr w.heap.size s k (k + (Utf8.decode s k).2) hit
      have hbw2 := Lib.below_iterAt hbw (k := w.heap.size) (by omega) s (k + (Utf8.decode s k).2)
      have hown2 := ownsRow_iterAt hown hit (k + (Utf8.decode s k).2)
      have hsz2 : w.heap.size < (wr.iterAt w.heap.size s (k + (Utf8.decode s k).2)).heap.size := by rw [Lib.iterAt_size]; exact hsz
      obtain ⟨w1, hw1⟩ : ∃ w1, w1 = wr.iterAt w.heap.size s (k + (Utf8.decode s k).2) := ⟨_, rfl⟩
      rw [← hw1] at hnx0 hit2 hbw2 hown2 hsz2
      have Hit := Lib.hid hit
      have HW := Lib.hid hw1
      have hwd := (decode_tail s k hp).1
      have hd1 := decode_le s k
      have hd2 : 1 ≤ (Utf8.decode s k).2 := by
        by_cases ha : s[k].toNat < 128
        · rw [decode_ascii s k hp ha]; exact Nat.le_refl _
        · exact (decode_high s k hp (by omega)).2
      by_cases hr : (Utf8.decode s k).1 = 10
      · have ha : s[k].toNat < 128 := by
          by_cases ha : s[k].toNat < 128
          · exact ha
          · have := (decode_high s k hp (by omega)).1
            omega
        have hde : Utf8.decode s k = (s[k].toNat, 1) := decode_ascii s k hp ha
        rw [hde] at hnx0 hit2 hr
        simp only at hnx0 hit2 hr
        have hb10 : s[k] = 10 := by apply UInt8.toNat_inj.1; simpa using hr
        have hlist : s.data.toList.drop k = 10 :: s.data.toList.drop (k + 1) := by rw [get_list s k hp, hb10]
        rw [hlist, splitFrom_lf] at hls
        have f10 : ((s[k].toNat : Int) == 10) = true := by simp; omega
        have HX := Lib.hid (ext_bytes s g k)
        have HF : (ls ++ [(s.data.toList.drop g).take (k - g)]) ++ splitFrom ((s.data.toList.drop (k + 1)).take (k + 1 - (k + 1))) (s.data.toList.drop (k + 1)) = splitL s.data.toList := by
          rw [← hls]; simp
        have HF := Lib.hid HF
        have hsub : (strs ls ++ [Value.string (s.extract g k)]) = strs (ls ++ [(s.data.toList.drop g).take (k - g)]) := by rw [strs_append, strs_one, HX.out]
        have HU := Lib.hid hsub
        clear hit hbw hsz hown hls hw1 hde hr hb10 hlist hd1 hd2 hsub
        have hnx := hnx0
        clear hnx0
        go_wp2_with (at_builtin; refine wpList_append_own _ rfl _ _ 22 rfl w.heap.size 9 i0 (.string ByteArray.empty) 1 16 Tryz.underlying22 hi hz0 hz1 hz2 rfl (by decide) _ _ _ rfl (hown2.alloc _) ⟨w1.heap.size, 0, none⟩ 1 1 [.string (s.extract g k)] rfl rfl ?c1 ?c2 ?c3 ?c4 ?c5 ?_)
        case c1 =>
          intro j u hj
          match j, hj with
          | 0, hj => simp at hj; subst hj; simp [Addr.add]
        case c2 => intro u hu; simp at hu; subst hu; rfl
        case c3 => unfold maxLen; omega
        case c4 => omega
        case c5 => simp; omega
        · intro v' w2 hown' hgrow _
          have hgs := hgrow.size
          have hit3 := iter_grown (hown2.alloc _) hgrow (iter_alloc hit2 _)
          have hbw3 := (hbw2.alloc (by omega) _).grown hgrow (by simp; omega) (fun k hk => (hown2.lt k hk).1)
          rw [HU.out] at hown'
          have hown'' : w2.ownsRow w.heap.size 9 1 v' (ls ++ [(s.data.toList.drop g).take (k - g)]).length (strs (ls ++ [(s.data.toList.drop g).take (k - g)])) := by rw [List.length_append]; exact hown'
          have hs3 : w.heap.size < w2.heap.size := by simp at hgs; omega
          have HO := Lib.hid hown''
          clear hown' hgrow hown'' hown2 hbw2 hit2
          go_wp2
          go_roundw
          case rel => exact ⟨k + 1, k + 1, _, by go_num, by omega, by omega, by rw [List.length_append]; simp; omega, hit3, hbw3, hs3, HO.out, HF.out⟩
          case measure => simp only [World.iterPos, hit3, Hit.out]; omega
      · have f10 : (((Utf8.decode s k).1 : Int) == 10) = false := by simp; omega
        have hno := rune_noLF s k hp hr
        have hsg := seg_grow s g k (Utf8.decode s k).2 hgk hwd
        have hdd : s.data.toList.drop k = (s.data.toList.drop k).take (Utf8.decode s k).2 ++ s.data.toList.drop (k + (Utf8.decode s k).2) := by
          rw [← List.drop_drop, List.take_append_drop]
        rw [hdd, splitFrom_more _ _ _ hno, hsg] at hls
        have HF := Lib.hid hls
        clear hit hbw hsz hown hls hw1 hr hdd hno hsg
        have hnx := hnx0
        clear hnx0
        go_wp2
        go_roundw
        case rel => exact ⟨k + (Utf8.decode s k).2, g, ls, rfl, hwd, by omega, by omega, hit2, hbw2, hsz2, hown2, HF.out⟩
        case measure => simp only [World.iterPos, hit2, Hit.out]; omega
    · have hnx : ∀ ty, (Instr.next (.pointer (some ⟨w.heap.size, 0, none⟩)) true ty).run Tryz.prog wr = _ := fun ty => Lib.run_next_end_at wr w.heap.size s k ty hit hp
      have e : s.data.toList.drop k = [] := List.drop_eq_nil_of_le (by simp; omega)
      obtain rfl : k = s.size := by omega
      rw [e] at hls
      have hl : s.data.toList.length = s.size := by simp
      by_cases hgs : g < s.size
      · have hne : (s.data.toList.drop g).take (s.size - g) ≠ [] := by
          intro e1
          have := congrArg List.length e1
          simp at this
          omega
        rw [splitFrom, if_neg hne] at hls
        have HX := Lib.hid (ext_bytes s g s.size)
        have HU := Lib.hid (show (strs ls ++ [Value.string (s.extract g s.size)]) = strs (splitL s.data.toList) from by rw [← hls, strs_append, strs_one, HX.out])
        have HN := Lib.hid (show ls.length + 1 = (splitL s.data.toList).length from by rw [← hls, List.length_append]; rfl)
        clear hls hne e hl
        go_wp2_with (at_builtin; refine wpList_append_own _ rfl _ _ 22 rfl w.heap.size 9 i0 (.string ByteArray.empty) 1 16 Tryz.underlying22 hi hz0 hz1 hz2 rfl (by decide) _ _ _ rfl (hown.alloc _) ⟨wr.heap.size, 0, none⟩ 1 1 [.string (s.extract g s.size)] rfl rfl ?d1 ?d2 ?d3 ?d4 ?d5 ?_)
        case d1 =>
          intro j u hj
          match j, hj with
          | 0, hj => simp at hj; subst hj; simp [Addr.add]
        case d2 => intro u hu; simp at hu; subst hu; rfl
        case d3 => unfold maxLen; omega
        case d4 => omega
        case d5 => simp; omega
        · intro v' w2 hown' hgrow _
          have hbw3 := (hbw.alloc (by omega) _).grown hgrow (by simp; omega) (fun k hk => (hown.lt k hk).1)
          rw [HU.out, HN.out] at hown'
          have HO := Lib.hid hown'
          clear hown' hgrow
          go_wp2
          go_ret
          exact ⟨v', rfl, HO.out, hbw3⟩
      · obtain rfl : g = s.size := by omega
        have e2 : (s.data.toList.drop s.size).take (s.size - s.size) = [] := by simp
        rw [e2, splitFrom, if_pos rfl, List.append_nil] at hls
        subst hls
        clear e e2 hl
        go_wp2
        go_ret
        exact ⟨_, rfl, hown, hbw⟩

end Go.Proofs.YtkcmhdkhdjmjeaaGreatDoor
