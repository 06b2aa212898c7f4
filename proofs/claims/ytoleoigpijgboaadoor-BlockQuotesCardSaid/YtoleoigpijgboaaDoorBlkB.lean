/-
  Package block: deep, blanks, stripped, flow: what each answers, in plain words; a list is searched for a line that is blank, or that closes a fence.
-/
import Derived.Test.YtoleoigpijgboaaDoorBlkA
import Derived.Laws.ResultCell
namespace Go.Proofs.YtoleoigpijgboaaDoor
open Go.RowKit
set_option linter.unusedSimpArgs false
set_option linter.unusedVariables false
set_option maxRecDepth 100000

theorem drop_line (ls : List (List UInt8)) {k : Nat} (h : k < ls.length) : ls.drop k = ls[k] :: ls.drop (k + 1) := List.drop_eq_getElem_cons h
/-- A list of lines that may be read: how great it is. -/
theorem RowOf.strs_le {w : World} {A : Option Addr} {cap : Nat} {ls : List (List UInt8)} (h : RowOf w A cap (strs ls)) : ls.length ≤ cap ∧ cap ≤ 9223372036854775807 := by
  have h1 := h.1
  have h2 := h.2.1
  rw [strs_length] at h1
  unfold maxLen at h2
  exact ⟨h1, by omega⟩

/-- How many lines there are, if x of those from k on belong to them. -/
def later (n k : Nat) : Nat → Nat
  | 0 => n
  | x + 1 => k + (x + 1)
theorem later_blank (n k x : Nat) : later n k (if x = 0 then 0 else x + 1) = later n (k + 1) x := by
  cases x with
  | zero => rfl
  | succ x => rw [if_neg (by omega)]; show k + (x + 1 + 1) = k + 1 + (x + 1); omega
theorem later_more (n k x : Nat) : later n k (x + 1) = later (k + 1) (k + 1) x := by
  cases x with
  | zero => rfl
  | succ x => show k + (x + 1 + 1) = k + 1 + (x + 1); omega
def DeepRel (c : Nat) (ls : List (List UInt8)) (w : World) (z i : Value) (wr : World) : Prop :=
  ∃ n k : Nat, z = .int .i64 n ∧ i = .int .i64 k ∧ k ≤ ls.length ∧ n ≤ k ∧ Below w.heap.size w wr ∧ deepL c ls = later n k (deepL c (ls.drop k))

set_option maxHeartbeats 4000000 in
theorem deep_any (c : Nat) (hc : c ≤ 1000000000) (A : Option Addr) (cap : Nat) (ls : List (List UInt8)) (w : World) (hrow : RowOf w A cap (strs ls)) (hf : Few ls) :
    Calls Tryd.prog 54 #[.int .i64 c, .slice A ls.length cap] w fun e w' => e = .returned (.int .i64 (deepL c ls)) ∧ Below w.heap.size w w' := by
  have hcl := hrow.strs_le
  have hlen := hf.len
  have HF := Lib.hid hf
  clear hf
  go_enter Tryd.func54, Tryd.ntmps54
  go_wp2_with fail
  go_loopw [5, 10] (fun z i wr => DeepRel c ls w z i wr) (fun _ i _ => ls.length - (intOf i).toNat)
  case atStart => exact ⟨0, 0, rfl, rfl, Nat.zero_le _, Nat.le_refl _, Below.refl _ _, by rw [List.drop_zero]; cases deepL c ls with
    | zero => rfl
    | succ x => show x + 1 = 0 + (x + 1); omega⟩
  case round =>
    obtain ⟨n, k, rfl, rfl, hk, hnk, hbw, hd⟩ := hrel
    by_cases hp : k < ls.length
    · obtain ⟨b, off, rfl, hb, hcell⟩ := (hrow.below hbw).cellAt hp
      have hsz := HF.out.size hp
      rw [drop_line ls hp] at hd
      generalize ls[k] = s at *
      have cb := fun w1 => blank_any ⟨s.toArray⟩ w1 (by rw [str_size]; omega)
      have ci := fun w1 => indent_any ⟨s.toArray⟩ w1 (by rw [str_size]; omega)
      rw [show (⟨s.toArray⟩ : ByteArray).data.toList = s from rfl] at cb ci
      have hm1 := mCols_le s 0
      have hm2 := mSize_le s
      have HB := Lib.hid hbw
      simp only [deepL] at hd
      cases hbl : s.all isGap with
      | true =>
        rw [hbl] at cb hd
        simp only [if_true] at hd
        have HD := Lib.hid (show deepL c ls = later n (k + 1) (deepL c (ls.drop (k + 1))) from by rw [hd, later_blank])
        clear hd hbl hbw ci hm1 hm2 hsz
        go_wp2_with fail
        refine (cb _).mono ?_
        rintro e w1 ⟨rfl, b1⟩
        go_wp2
        go_roundw
        case rel => exact ⟨n, k + 1, rfl, by go_num, by omega, by omega, HB.out.then b1, HD.out⟩
        case measure => simp [intOf]; omega
      | false =>
        rw [hbl] at cb hd
        simp only [Bool.false_eq_true, if_false] at hd
        by_cases hlt : mCols s 0 < c
        · rw [if_pos hlt] at hd
          have HD := Lib.hid (show deepL c ls = n from hd)
          have f1 : decide ((mCols s 0 : Int) < (c : Int)) = true := by simp; omega
          clear hd hbl hbw hm1 hm2 hsz
          generalize mCols s 0 = mc at *
          go_wp2_with fail
          refine (cb _).mono ?_
          rintro e w1 ⟨rfl, b1⟩
          go_wp2_with fail
          refine (ci _).mono ?_
          rintro e w2 ⟨rfl, b2⟩
          go_wp2
          go_ret
          exact ⟨by rw [HD.out]; rfl, (HB.out.then b1).then b2⟩
        · rw [if_neg hlt] at hd
          have HD := Lib.hid (show deepL c ls = later (k + 1) (k + 1) (deepL c (ls.drop (k + 1))) from by rw [hd, later_more])
          have f1 : decide ((mCols s 0 : Int) < (c : Int)) = false := by simp; omega
          clear hd hbl hbw hm1 hm2 hsz
          generalize mCols s 0 = mc at *
          go_wp2_with fail
          refine (cb _).mono ?_
          rintro e w1 ⟨rfl, b1⟩
          go_wp2_with fail
          refine (ci _).mono ?_
          rintro e w2 ⟨rfl, b2⟩
          go_wp2
          go_roundw
          case rel => exact ⟨k + 1, k + 1, by go_num, by go_num, by omega, by omega, (HB.out.then b1).then b2, HD.out⟩
          case measure => simp [intOf]; omega
    · obtain rfl : k = ls.length := by omega
      rw [List.drop_length] at hd
      have HD := Lib.hid (show deepL c ls = n from hd)
      clear hd
      go_wp2
      go_ret
      exact ⟨by rw [HD.out]; rfl, hbw⟩

def BlanksRel (ls : List (List UInt8)) (w : World) (i : Value) (wr : World) : Prop := ∃ k : Nat, i = .int .i64 k ∧ k ≤ ls.length ∧ Below w.heap.size w wr ∧ blanksL ls = k + blanksL (ls.drop k)
set_option maxHeartbeats 4000000 in
theorem blanks_any (A : Option Addr) (cap : Nat) (ls : List (List UInt8)) (w : World) (hrow : RowOf w A cap (strs ls)) (hf : Few ls) :
    Calls Tryd.prog 53 #[.slice A ls.length cap] w fun e w' => e = .returned (.int .i64 (blanksL ls)) ∧ Below w.heap.size w w' := by
  have hcl := hrow.strs_le
  have hlen := hf.len
  have HF := Lib.hid hf
  clear hf
  go_enter Tryd.func53, Tryd.ntmps53
  go_wp2_with fail
  go_loopw [7] (fun i wr => BlanksRel ls w i wr) (fun i _ => ls.length - (intOf i).toNat)
  case atStart => exact ⟨0, rfl, Nat.zero_le _, Below.refl _ _, by simp⟩
  case round =>
    obtain ⟨k, rfl, hk, hbw, hd⟩ := hrel
    by_cases hp : k < ls.length
    · obtain ⟨b, off, rfl, hb, hcell⟩ := (hrow.below hbw).cellAt hp
      have hsz := HF.out.size hp
      rw [drop_line ls hp] at hd
      generalize ls[k] = s at *
      have cb := fun w1 => blank_any ⟨s.toArray⟩ w1 (by rw [str_size]; omega)
      rw [show (⟨s.toArray⟩ : ByteArray).data.toList = s from rfl] at cb
      have HB := Lib.hid hbw
      simp only [blanksL] at hd
      cases hbl : s.all isGap with
      | true =>
        rw [hbl] at cb hd
        simp only [if_true] at hd
        have HD := Lib.hid (show blanksL ls = (k + 1) + blanksL (ls.drop (k + 1)) from by rw [hd]; omega)
        clear hd hbl hbw hsz
        go_wp2_with fail
        refine (cb _).mono ?_
        rintro e w1 ⟨rfl, b1⟩
        go_wp2
        go_roundw
        case rel => exact ⟨k + 1, by go_num, by omega, HB.out.then b1, HD.out⟩
        case measure => simp [intOf]; omega
      | false =>
        rw [hbl] at cb hd
        simp only [Bool.false_eq_true, if_false] at hd
        have HD := Lib.hid (show blanksL ls = k from by simpa using hd)
        clear hd hbl hbw hsz
        go_wp2_with fail
        refine (cb _).mono ?_
        rintro e w1 ⟨rfl, b1⟩
        go_wp2
        go_ret
        exact ⟨by rw [HD.out]; rfl, HB.out.then b1⟩
    · obtain rfl : k = ls.length := by omega
      rw [List.drop_length] at hd
      have HD := Lib.hid (show blanksL ls = ls.length from by simpa [blanksL] using hd)
      clear hd
      go_wp2
      go_ret
      exact ⟨by rw [HD.out]; rfl, hbw⟩

/-- A list of texts grows, line by line. -/
def MapRel (g : List UInt8 → List UInt8) (ls : List (List UInt8)) (w : World) (v i : Value) (wr : World) : Prop :=
  ∃ k : Nat, i = .int .i64 k ∧ k ≤ ls.length ∧ wr.ownsRow w.heap.size 9 1 v k (strs ((ls.map g).take k)) ∧ Below w.heap.size w wr
theorem map_step (g : List UInt8 → List UInt8) (ls : List (List UInt8)) {k : Nat} (h : k < ls.length) : strs ((ls.map g).take k) ++ [Value.string ⟨(g ls[k]).toArray⟩] = strs ((ls.map g).take (k + 1)) := by
  rw [List.take_succ_eq_append_getElem (by rw [List.length_map]; exact h), strs_append, List.getElem_map]
  rfl
theorem map_all (g : List UInt8 → List UInt8) (ls : List (List UInt8)) : (ls.map g).take ls.length = ls.map g := List.take_of_length_le (by simp)

set_option maxHeartbeats 4000000 in
theorem stripped_any (c : Nat) (hc : c ≤ 1000000000) (A : Option Addr) (cap : Nat) (ls : List (List UInt8)) (w : World) (hrow : RowOf w A cap (strs ls)) (hf : Few ls) :
    Calls Tryd.prog 55 #[.int .i64 c, .slice A ls.length cap] w fun e w' => ∃ v, e = .returned v ∧ w'.ownsRow w.heap.size 9 1 v ls.length (strs (strippedL c ls)) ∧ Below w.heap.size w w' := by
  obtain ⟨i0, hi, hz0, hz1, hz2⟩ := info_parts infoString
  have hcl := hrow.strs_le
  have hlen := hf.len
  have HF := Lib.hid hf
  clear hf
  go_enter Tryd.func55, Tryd.ntmps55
  go_wp2_with fail
  go_loopw [5, 10] (fun v i wr => MapRel (fun s => stripL s c) ls w v i wr) (fun _ i _ => ls.length - (intOf i).toNat)
  case atStart => exact ⟨0, rfl, Nat.zero_le _, World.ownsRow_nil _ _ _ _, Below.refl _ _⟩
  case round =>
    obtain ⟨k, rfl, hk, hown, hbw⟩ := hrel
    by_cases hp : k < ls.length
    · obtain ⟨b, off, rfl, hb, hcell⟩ := (hrow.below hbw).cellAt hp
      have hsz := HF.out.size hp
      have HM := Lib.hid (show strs ((ls.map fun s => stripL s c).take k) ++ [Value.string ⟨(stripL ls[k] c).toArray⟩] = strs ((ls.map fun s => stripL s c).take (k + 1)) from map_step (fun s => stripL s c) ls hp)
      generalize ls[k] = s at *
      have cs := fun w1 => strip_any ⟨s.toArray⟩ c w1 (by rw [str_size]; omega) (by omega)
      rw [show (⟨s.toArray⟩ : ByteArray).data.toList = s from rfl, Int.toNat_natCast] at cs
      have HB := Lib.hid hbw
      have HO := Lib.hid hown
      have hss := hbw.size
      clear hbw hown hsz
      go_wp2_with fail
      refine (cs _).mono ?_
      rintro e w1 ⟨rfl, b1⟩
      have hnw := cells_one w1 (.string ⟨(stripL s c).toArray⟩) 9
      have hrow2 := (ownsRow_below HO.out b1).alloc (.cells #[.string ⟨(stripL s c).toArray⟩] 9)
      have hs1 := b1.size
      have HB1 := Lib.hid (HB.out.then b1)
      clear b1 cs
      go_wp2_with (at_builtin; refine wpList_append_own _ rfl _ _ 22 rfl w.heap.size 9 i0 (.string ByteArray.empty) 1 16 Tryd.underlying22 hi hz0 hz1 hz2 rfl (by decide) _ _ _ rfl hrow2 ⟨w1.heap.size, 0, none⟩ 1 1 [.string ⟨(stripL s c).toArray⟩] rfl rfl hnw (by simp [Value.oneCell']) (by unfold maxLen; omega) (by omega) (by simp; omega) ?_)
      intro v' w2 hown' hgrow _
      rw [HM.out] at hown'
      have hb2 := (HB1.out.alloc (by omega) (.cells #[.string ⟨(stripL s c).toArray⟩] 9)).trans (below_of_grown hgrow (fun g hg => (hrow2.lt g hg).1) (by simp; omega))
      have HO2 := Lib.hid hown'
      have HB2 := Lib.hid hb2
      clear hown' hgrow hb2 hrow2 hnw
      go_wp2
      go_roundw
      case rel => exact ⟨k + 1, by go_num, by omega, HO2.out, HB2.out⟩
      case measure => simp [intOf]; omega
    · obtain rfl : k = ls.length := by omega
      rw [map_all] at hown
      have HO := Lib.hid hown
      clear hown
      go_wp2
      go_ret
      exact ⟨_, rfl, HO.out, hbw⟩

theorem joins_any (A : Option Addr) (cap : Nat) (ls : List (List UInt8)) (w : World) (hrow : RowOf w A cap (strs ls)) (hlen : (Lib.join ls [10]).length ≤ 140737488355328) (hn : ls.length ≤ 1000000) :
    Calls Tryd.prog 83 #[.slice A ls.length cap, .string ⟨#[10]⟩] w fun e w' => e = .returned (.string ⟨(Lib.join ls [10]).toArray⟩) ∧ Below w.heap.size w w' := by
  by_cases h0 : ls = []
  · subst h0
    refine (Tryd.strings_Join_none A cap ⟨#[10]⟩ w).mono ?_
    rintro e w' ⟨rfl, rfl⟩
    exact ⟨rfl, Below.refl _ _⟩
  · have hne : strs ls ≠ [] := by
      intro e
      exact h0 (List.map_eq_nil_iff.1 e)
    obtain ⟨b, off, rfl, hb, hc⟩ := hrow.at hne
    have h1 := hrow.1
    have e1 : (ls.map fun l => (⟨l.toArray⟩ : ByteArray)).map (·.data.toList) = ls := by
      rw [List.map_map]
      exact List.map_id'' (fun l => rfl) ls
    have := Tryd.strings_Join b off cap (ls.map fun l => (⟨l.toArray⟩ : ByteArray)) ⟨#[10]⟩ w (fun j x hx => by
      rw [List.getElem?_map] at hx
      cases hj : ls[j]? with
      | none => rw [hj] at hx; cases hx
      | some y =>
        rw [hj] at hx
        cases hx
        obtain ⟨hjl, hje⟩ := List.getElem?_eq_some_iff.1 hj
        have h2 := hc j (by rw [strs_length]; exact hjl)
        rw [strs_get] at h2
        rw [h2, hje]) hb (by rw [List.length_map]; omega) (by rw [List.length_map, ← strs_length]; exact h1) (by rw [e1]; exact hlen)
    rw [e1, List.length_map] at this
    exact this
theorem joinN_bound : ∀ (ls : List (List UInt8)) (M : Nat), (∀ x ∈ ls, x.length ≤ M) → (Lib.join ls [10]).length ≤ ls.length * (M + 1) := by
  intro ls M h
  cases ls with
  | nil => simp [Lib.join_nil]
  | cons x r =>
    rw [Lib.join_cons, List.length_append, List.length_cons, Nat.succ_mul]
    have h1 := h x (by simp)
    have h2 : (Lib.joinTail [10] r).length ≤ r.length * (M + 1) := by
      have hr : ∀ y ∈ r, y.length ≤ M := fun y hy => h y (by simp [hy])
      clear h h1
      induction r with
      | nil => simp [Lib.joinTail]
      | cons y t ih =>
        have h3 := hr y (by simp)
        have h4 := ih (fun z hz => hr z (by simp [hz]))
        unfold Lib.joinTail at h4 ⊢
        rw [List.map_cons, List.flatten_cons, List.length_append, List.length_append, show (y :: t).length = t.length + 1 from rfl, Nat.succ_mul]
        simp only [List.length_cons, List.length_nil]
        omega
    omega
theorem noBegin_le (l : List UInt8) : (noBegin l).length ≤ l.length := (List.dropWhile_suffix isGap (l := l)).length_le

set_option maxHeartbeats 4000000 in
theorem flow_any (A : Option Addr) (cap : Nat) (ls : List (List UInt8)) (w : World) (hrow : RowOf w A cap (strs ls)) (hf : Few ls) :
    Calls Tryd.prog 63 #[.slice A ls.length cap] w fun e w' => e = .returned (.string ⟨(flowL ls).toArray⟩) ∧ Below w.heap.size w w' := by
  obtain ⟨i0, hi, hz0, hz1, hz2⟩ := info_parts infoString
  have hcl := hrow.strs_le
  have hlen := hf.len
  have hjb : (Lib.join (ls.map noBegin) [10]).length ≤ 140737488355328 := by
    have h1 := joinN_bound (ls.map noBegin) 1000000 (fun x hx => by
      obtain ⟨y, hy, rfl⟩ := List.mem_map.1 hx
      have h1 := hf.wt y hy
      have h2 := wt_len y
      have h3 := noBegin_le y
      omega)
    rw [List.length_map] at h1
    have h2 := Nat.mul_le_mul_right (1000000 + 1) hf.len
    omega
  have HJ := Lib.hid hjb
  have HF := Lib.hid hf
  clear hf hjb
  go_enter Tryd.func63, Tryd.ntmps63
  go_wp2_with fail
  go_loopw [3, 8] (fun v i wr => MapRel noBegin ls w v i wr) (fun _ i _ => ls.length - (intOf i).toNat)
  case atStart => exact ⟨0, rfl, Nat.zero_le _, World.ownsRow_nil _ _ _ _, Below.refl _ _⟩
  case round =>
    obtain ⟨k, rfl, hk, hown, hbw⟩ := hrel
    by_cases hp : k < ls.length
    · obtain ⟨b, off, rfl, hb, hcell⟩ := (hrow.below hbw).cellAt hp
      have hsz := HF.out.size hp
      have HM := Lib.hid (map_step noBegin ls hp)
      generalize ls[k] = s at *
      have cs := fun w1 => noBegin_any ⟨s.toArray⟩ w1 (by rw [str_size]; omega)
      rw [show (⟨s.toArray⟩ : ByteArray).data.toList = s from rfl] at cs
      have HB := Lib.hid hbw
      have HO := Lib.hid hown
      have hss := hbw.size
      clear hbw hown hsz
      go_wp2_with fail
      refine (cs _).mono ?_
      rintro e w1 ⟨rfl, b1⟩
      have hnw := cells_one w1 (.string ⟨(noBegin s).toArray⟩) 9
      have hrow2 := (ownsRow_below HO.out b1).alloc (.cells #[.string ⟨(noBegin s).toArray⟩] 9)
      have hs1 := b1.size
      have HB1 := Lib.hid (HB.out.then b1)
      clear b1 cs
      go_wp2_with (at_builtin; refine wpList_append_own _ rfl _ _ 22 rfl w.heap.size 9 i0 (.string ByteArray.empty) 1 16 Tryd.underlying22 hi hz0 hz1 hz2 rfl (by decide) _ _ _ rfl hrow2 ⟨w1.heap.size, 0, none⟩ 1 1 [.string ⟨(noBegin s).toArray⟩] rfl rfl hnw (by simp [Value.oneCell']) (by unfold maxLen; omega) (by omega) (by simp; omega) ?_)
      intro v' w2 hown' hgrow _
      rw [HM.out] at hown'
      have hb2 := (HB1.out.alloc (by omega) (.cells #[.string ⟨(noBegin s).toArray⟩] 9)).trans (below_of_grown hgrow (fun g hg => (hrow2.lt g hg).1) (by simp; omega))
      have HO2 := Lib.hid hown'
      have HB2 := Lib.hid hb2
      clear hown' hgrow hb2 hrow2 hnw
      go_wp2
      go_roundw
      case rel => exact ⟨k + 1, by go_num, by omega, HO2.out, HB2.out⟩
      case measure => simp [intOf]; omega
    · obtain rfl : k = ls.length := by omega
      rw [map_all] at hown
      obtain ⟨A2, c2, rfl, hrow2, _⟩ := RowOf.own hown
      have cj := joins_any A2 c2 (ls.map noBegin) wr hrow2 HJ.out (by rw [List.length_map]; omega)
      rw [List.length_map] at cj
      have HE := Lib.hid (show flowL ls = trimGR (Lib.join (ls.map noBegin) [10]) from rfl)
      have hjs := HJ.out
      generalize Lib.join (ls.map noBegin) [10] = T at *
      have ce := fun w1 => withoutEnd_any ⟨T.toArray⟩ w1 (by rw [str_size]; exact hjs)
      rw [show (⟨T.toArray⟩ : ByteArray).data.toList = T from rfl] at ce
      have HB := Lib.hid hbw
      clear hown hrow2 hbw hjs
      go_wp2_with fail
      refine cj.mono ?_
      rintro e w1 ⟨rfl, b1⟩
      go_wp2_with fail
      refine (ce _).mono ?_
      rintro e w2 ⟨rfl, b2⟩
      go_wp2
      go_ret
      exact ⟨ret_string (by rw [HE.out]), (HB.out.then b1).then b2⟩

def idxI : Option Nat → Int
  | some k => k
  | none => -1
/-- The search goes on: no line so far is such a one. -/
def IdxRel (p : List UInt8 → Bool) (ls : List (List UInt8)) (w : World) (i : Value) (wr : World) : Prop := ∃ k : Nat, i = .int .i64 k ∧ k ≤ ls.length ∧ ls.findIdx? p = ((ls.drop k).findIdx? p).map (· + k) ∧ Below w.heap.size w wr

set_option maxHeartbeats 4000000 in
theorem indexBlank_any (A : Option Addr) (cap : Nat) (ls : List (List UInt8)) (w : World) (hrow : RowOf w A cap (strs ls)) (hf : Few ls) :
    Calls Tryd.prog 60 #[.slice A ls.length cap, .func (.func 22) #[] #[]] w fun e w' => e = .returned (.int .i64 (idxI (ls.findIdx? (fun s => s.all isGap)))) ∧ Below w.heap.size w w' := by
  have hcl := hrow.strs_le
  have hlen := hf.len
  have HF := Lib.hid hf
  clear hf
  go_enter Tryd.func60, Tryd.ntmps60
  go_wp2_with fail
  go_loopw [8] (fun i wr => IdxRel (fun s => s.all isGap) ls w i wr) (fun i _ => ls.length - (intOf i).toNat)
  case atStart => exact ⟨0, rfl, Nat.zero_le _, by rw [List.drop_zero]; cases ls.findIdx? (fun s => s.all isGap) <;> rfl, Below.refl _ _⟩
  case round =>
    obtain ⟨k, rfl, hk, hd, hbw⟩ := hrel
    by_cases hp : k < ls.length
    · obtain ⟨b0, off, rfl, hb, hcell⟩ := (hrow.below hbw).cellAt hp
      have hsz := HF.out.size hp
      rw [drop_line ls hp, List.findIdx?_cons] at hd
      generalize ls[k] = s at *
      have cb := blank_any ⟨s.toArray⟩ wr (by rw [str_size]; omega)
      rw [show (⟨s.toArray⟩ : ByteArray).data.toList = s from rfl] at cb
      have HB := Lib.hid hbw
      cases hbl : s.all isGap with
      | true =>
        rw [hbl] at cb hd
        have HD := Lib.hid (show ls.findIdx? (fun s => s.all isGap) = some k from by rw [hd]; simp)
        clear hd hbl hbw hsz
        go_wp2_with fail
        refine cb.mono ?_
        rintro e w1 ⟨rfl, b1⟩
        go_wp2
        go_ret
        exact ⟨by rw [HD.out]; rfl, HB.out.then b1⟩
      | false =>
        rw [hbl] at cb hd
        have HD := Lib.hid (show ls.findIdx? (fun s => s.all isGap) = ((ls.drop (k + 1)).findIdx? (fun s => s.all isGap)).map (· + (k + 1)) from by
          rw [hd]
          simp only [Bool.false_eq_true, if_false]
          cases (ls.drop (k + 1)).findIdx? (fun s => s.all isGap) with
          | none => rfl
          | some j => simp; omega)
        clear hd hbl hbw hsz
        go_wp2_with fail
        refine cb.mono ?_
        rintro e w1 ⟨rfl, b1⟩
        go_wp2
        go_roundw
        case rel => exact ⟨k + 1, by go_num, by omega, HD.out, HB.out.then b1⟩
        case measure => simp [intOf]; omega
    · obtain rfl : k = ls.length := by omega
      rw [List.drop_length] at hd
      have HD := Lib.hid (show ls.findIdx? (fun s => s.all isGap) = none from by rw [hd]; rfl)
      clear hd
      go_wp2
      go_ret
      exact ⟨by rw [HD.out]; rfl, hbw⟩

theorem containsBlank_any (A : Option Addr) (cap : Nat) (ls : List (List UInt8)) (w : World) (hrow : RowOf w A cap (strs ls)) (hf : Few ls) :
    Calls Tryd.prog 56 #[.slice A ls.length cap, .func (.func 22) #[] #[]] w fun e w' => e = .returned (.bool (ls.any fun s => s.all isGap)) ∧ Below w.heap.size w w' := by
  have c1 := indexBlank_any A cap ls w hrow hf
  have hV : ls.any (fun s => s.all isGap) = (ls.findIdx? fun s => s.all isGap).isSome := by
    rw [List.findIdx?_isSome]
  rw [hV]
  clear hV
  cases hi : ls.findIdx? (fun s => s.all isGap) with
  | none =>
    rw [hi] at c1
    clear hi
    go_enter Tryd.func56, Tryd.ntmps56
    go_wp2_with fail
    refine c1.mono ?_
    rintro e w1 ⟨rfl, b1⟩
    unfold idxI
    go_wp2
    go_ret
    exact ⟨rfl, b1⟩
  | some k =>
    rw [hi] at c1
    unfold idxI at c1
    dsimp only at c1
    have f1 : decide ((0 : Int) ≤ (k : Int)) = true := by simp
    clear hi
    go_enter Tryd.func56, Tryd.ntmps56
    go_wp2_with fail
    refine c1.mono ?_
    rintro e w1 ⟨rfl, b1⟩
    go_wp2
    go_ret
    exact ⟨rfl, b1⟩

/-- The closure that tells a line that closes a fence. -/
theorem closes_at (s : ByteArray) (b1 b2 : Nat) (c : UInt8) (hc : c.toNat < 128) (n : Int) (w : World) (hs : s.size ≤ 35184372088832) (h1 : w.cell? ⟨b1, 0, none⟩ = some (.int .u8 c.toNat)) (h2 : w.cell? ⟨b2, 0, none⟩ = some (.int .i64 n)) :
    Calls Tryd.prog 73 #[.string s, .pointer (some ⟨b1, 0, none⟩), .pointer (some ⟨b2, 0, none⟩)] w fun e w' => e = .returned (.bool (mkCloses s.data.toList c n)) ∧ Below w.heap.size w w' := by
  have cc := fun w1 => mkCloses_any s c hc n w1 hs
  go_enter Tryd.func73, Tryd.ntmps73
  go_wp2_with fail
  refine (cc _).mono ?_
  rintro e w1 ⟨rfl, b1⟩
  go_wp2
  go_ret
  exact ⟨rfl, b1⟩

set_option maxHeartbeats 4000000 in
theorem indexCloses_any (A : Option Addr) (cap : Nat) (ls : List (List UInt8)) (b1 b2 : Nat) (c : UInt8) (hc : c.toNat < 128) (n : Int) (w : World) (hrow : RowOf w A cap (strs ls)) (hf : Few ls) (hl1 : b1 < w.heap.size) (hl2 : b2 < w.heap.size) (hx1 : w.cell? ⟨b1, 0, none⟩ = some (.int .u8 c.toNat)) (hx2 : w.cell? ⟨b2, 0, none⟩ = some (.int .i64 n)) :
    Calls Tryd.prog 60 #[.slice A ls.length cap, .func (.func 73) #[] #[.pointer (some ⟨b1, 0, none⟩), .pointer (some ⟨b2, 0, none⟩)]] w fun e w' => e = .returned (.int .i64 (idxI (ls.findIdx? (fun s => mkCloses s c n)))) ∧ Below w.heap.size w w' := by
  have hcl := hrow.strs_le
  have hlen := hf.len
  have HF := Lib.hid hf
  clear hf
  go_enter Tryd.func60, Tryd.ntmps60
  go_wp2_with fail
  go_loopw [8] (fun i wr => IdxRel (fun s => mkCloses s c n) ls w i wr) (fun i _ => ls.length - (intOf i).toNat)
  case atStart => exact ⟨0, rfl, Nat.zero_le _, by rw [List.drop_zero]; cases ls.findIdx? (fun s => mkCloses s c n) <;> rfl, Below.refl _ _⟩
  case round =>
    obtain ⟨k, rfl, hk, hd, hbw⟩ := hrel
    by_cases hp : k < ls.length
    · obtain ⟨b0, off, rfl, hb, hcell⟩ := (hrow.below hbw).cellAt hp
      have hsz := HF.out.size hp
      rw [drop_line ls hp, List.findIdx?_cons] at hd
      generalize ls[k] = s at *
      have cb := closes_at ⟨s.toArray⟩ b1 b2 c hc n wr (by rw [str_size]; omega) ((hbw.cell (p := ⟨b1, 0, none⟩) hl1).trans hx1) ((hbw.cell (p := ⟨b2, 0, none⟩) hl2).trans hx2)
      rw [show (⟨s.toArray⟩ : ByteArray).data.toList = s from rfl] at cb
      have HB := Lib.hid hbw
      cases hbl : mkCloses s c n with
      | true =>
        rw [hbl] at cb hd
        have HD := Lib.hid (show ls.findIdx? (fun s => mkCloses s c n) = some k from by rw [hd]; simp)
        clear hd hbl hbw hsz
        go_wp2_with fail
        refine cb.mono ?_
        rintro e w1 ⟨rfl, b1⟩
        go_wp2
        go_ret
        exact ⟨by rw [HD.out]; rfl, HB.out.then b1⟩
      | false =>
        rw [hbl] at cb hd
        have HD := Lib.hid (show ls.findIdx? (fun s => mkCloses s c n) = ((ls.drop (k + 1)).findIdx? (fun s => mkCloses s c n)).map (· + (k + 1)) from by
          rw [hd]
          simp only [Bool.false_eq_true, if_false]
          cases (ls.drop (k + 1)).findIdx? (fun s => mkCloses s c n) with
          | none => rfl
          | some j => simp; omega)
        clear hd hbl hbw hsz
        go_wp2_with fail
        refine cb.mono ?_
        rintro e w1 ⟨rfl, b1⟩
        go_wp2
        go_roundw
        case rel => exact ⟨k + 1, by go_num, by omega, HD.out, HB.out.then b1⟩
        case measure => simp [intOf]; omega
    · obtain rfl : k = ls.length := by omega
      rw [List.drop_length] at hd
      have HD := Lib.hid (show ls.findIdx? (fun s => mkCloses s c n) = none from by rw [hd]; rfl)
      clear hd
      go_wp2
      go_ret
      exact ⟨by rw [HD.out]; rfl, hbw⟩

end Go.Proofs.YtoleoigpijgboaaDoor
