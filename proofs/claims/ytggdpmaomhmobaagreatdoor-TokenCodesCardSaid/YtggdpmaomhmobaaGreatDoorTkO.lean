/-
  Package token: All.
-/
import Derived.Test.YtggdpmaomhmobaaGreatDoorTkN
namespace Go.Proofs.YtggdpmaomhmobaaGreatDoor
open Go.RowKit
set_option linter.unusedSimpArgs false
set_option linter.unusedVariables false
set_option maxRecDepth 100000

theorem infoAny : (Tryz.prog.info? 20).map (fun i => (i.zero, i.size, i.bytes)) = some (some .nilIface, 1, 16) := by kernel_rfl
theorem tkV_one (t : Tk) : (tkV t).oneCell' = true := by cases t <;> rfl
def tkVs (ts : List Tk) : List Value := ts.map tkV
theorem tkVs_length (ts : List Tk) : (tkVs ts).length = ts.length := by simp [tkVs]
theorem tkVs_snoc (ts : List Tk) (t : Tk) : tkVs ts ++ [tkV t] = tkVs (ts ++ [t]) := by simp [tkVs]
theorem codeGo_ne (l : List UInt8) (n : Nat) : ∀ f k, (codeGo l n f k).1 ≠ .no
  | 0, k => by rw [codeGo]; exact fun e => by cases e
  | f + 1, k => by
    rw [codeGo]
    split
    · exact fun e => by cases e
    · simp only
      split
      · exact fun e => by cases e
      · exact codeGo_ne l n f _
theorem first_ne (l : List UInt8) (h : (firstTk l).2 ≠ 0) : (firstTk l).1 ≠ .no := by
  revert h
  unfold firstTk
  simp only
  split
  · intro _; obtain ⟨t, ht⟩ := atomL_atom l; rw [ht]; exact fun e => by cases e
  · split
    · unfold escapedL
      split
      · intro _ e; cases e
      · split
        · split
          · intro _ e; cases e
          · intro h; exact absurd rfl h
        · intro h; exact absurd rfl h
    · split
      · intro _ e; cases e
      · split
        · intro _; exact codeGo_ne _ _ _ _
        · split
          · intro _
            unfold pointedL
            simp only
            split
            · exact fun e => by cases e
            · split
              · exact fun e => by cases e
              · exact fun e => by cases e
          · split
            · intro _ e; cases e
            · split
              · intro _; obtain ⟨t, ht⟩ := markTk_mark l; rw [ht]; exact fun e => by cases e
              · split
                · intro _; obtain ⟨t, ht⟩ := lineTk_brk l; rw [ht]; exact fun e => by cases e
                · intro h; exact absurd rfl h
theorem next_ne (l : List UInt8) : (nextL l).1 ≠ .no := by
  unfold nextL
  split
  · exact fun e => by cases e
  · rename_i h; exact first_ne l h
theorem tkV_iface {t : Tk} (h : t ≠ .no) : ∃ T p, tkV t = .iface T p := by
  cases t with
  | no => exact absurd rfl h
  | _ => exact ⟨_, _, rfl⟩
def AllRel (s : ByteArray) (w : World) (v i : Value) (wr : World) : Prop :=
  ∃ (k : Nat) (ts : List Tk), i = .int .i64 k ∧ k ≤ s.size ∧ ts.length ≤ k ∧ Below w.heap.size w wr ∧ wr.ownsRow w.heap.size 20 1 v ts.length (tkVs ts) ∧ ts ++ tokensL (s.data.toList.drop k) = tokensL s.data.toList
def AllEnd (w : World) (ts : List Tk) (e : Ending) (w' : World) : Prop := ∃ v, e = .returned v ∧ w'.ownsRow w.heap.size 20 1 v ts.length (tkVs ts) ∧ Below w.heap.size w w'

set_option maxHeartbeats 2000000 in
theorem all_tk (s : ByteArray) (w : World) (hw : TkW w) (hs : s.size ≤ 4000000000) :
    Calls Tryz.prog 12 #[.string s] w (AllEnd w (tokensL s.data.toList)) := by
  obtain ⟨i0, hi, hz0, hz1, hz2⟩ := info_parts infoAny
  have HW := Lib.hid hw
  clear hw
  go_enter Tryz.func12, Tryz.ntmps12
  go_wp2_with fail
  go_loopw [3, 4] (fun v i wr => AllRel s w v i wr) (fun _ i _ => s.size - (intOf i).toNat)
  case atStart => exact ⟨0, [], rfl, Nat.zero_le _, Nat.le_refl _, Below.refl _ _, World.ownsRow_nil _ _ _ _, by simp⟩
  case round =>
    obtain ⟨k, ts, rfl, hk, htl, hbw, hown, hls⟩ := hrel
    by_cases hp : k < s.size
    · have hne : s.data.toList.drop k ≠ [] := by intro e; have := congrArg List.length e; rw [List.length_drop, size_len'] at this; simp at this; omega
      have hln := next_len _ hne
      rw [List.length_drop, size_len'] at hln
      have c1 := next_any s k hp wr (HW.out.below hbw) hs
      have hno := next_ne (s.data.toList.drop k)
      rw [tokens_cons _ hne, List.drop_drop] at hls
      generalize nextL (s.data.toList.drop k) = x at *
      obtain ⟨t, n⟩ := x
      simp only at c1 hls hln hno
      have HF := Lib.hid (show (ts ++ [t]) ++ tokensL (s.data.toList.drop (k + n)) = tokensL s.data.toList from by rw [← hls]; simp)
      have HT := Lib.hid (tkVs_snoc ts t)
      obtain ⟨T, p, hT⟩ := tkV_iface hno
      rw [hT] at c1 HT
      clear hT hno
      have C1 := Lib.hid c1
      have HB := Lib.hid hbw
      clear c1 hls hne hbw
      go_wp2_with fail
      refine C1.out.mono ?_
      rintro e w1 ⟨rfl, b1⟩
      have hown2 := ownsRow_below hown b1
      have hbw2 := HB.out.then b1
      have hsz : w.heap.size ≤ w1.heap.size := hbw2.size
      clear b1 hown
      go_wp2_with (at_builtin; refine wpList_append_own _ rfl _ _ 23 rfl w.heap.size 20 i0 .nilIface 1 16 Tryz.underlying23 hi hz0 hz1 hz2 rfl (by decide) _ _ _ rfl (hown2.alloc _) ⟨w1.heap.size, 0, none⟩ 1 1 [.iface T p] rfl rfl ?c1 ?c2 ?c3 ?c4 ?c5 ?_)
      case c1 =>
        intro j x hj
        match j, hj with
        | 0, hj => simp at hj; subst hj; simp [Addr.add]
      case c2 => intro x hx; simp at hx; subst hx; rfl
      case c3 => unfold maxLen; omega
      case c4 => omega
      case c5 => simp; omega
      · intro v' w2 hown' hgrow _
        have hgs := hgrow.size
        have hbw3 := (hbw2.alloc (by omega) _).grown hgrow (by simp; omega) (fun k hk => (hown2.lt k hk).1)
        rw [HT.out] at hown'
        have hown'' : w2.ownsRow w.heap.size 20 1 v' (ts ++ [t]).length (tkVs (ts ++ [t])) := by rw [List.length_append]; exact hown'
        have HO := Lib.hid hown''
        have HB3 := Lib.hid hbw3
        clear hown' hgrow hown'' hown2 hbw2 hbw3
        go_wp2
        go_roundw
        case rel => exact ⟨k + n, ts ++ [t], by go_num, by omega, by rw [List.length_append]; simp; omega, HB3.out, HO.out, HF.out⟩
        case measure => simp [intOf]; omega
    · obtain rfl : k = s.size := by omega
      rw [List.drop_eq_nil_of_le (by rw [size_len']; omega), tokens_nil, List.append_nil] at hls
      have HS := Lib.hid hls
      have HB := Lib.hid hbw
      have HO := Lib.hid hown
      clear hls hbw hown
      go_wp2
      go_ret
      rw [← HS.out]
      exact ⟨_, rfl, HO.out, HB.out⟩

end Go.Proofs.YtggdpmaomhmobaaGreatDoor
