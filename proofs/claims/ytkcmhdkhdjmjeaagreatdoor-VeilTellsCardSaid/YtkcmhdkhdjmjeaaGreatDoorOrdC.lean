/-
  bowdlerref1's Order: least.
-/
import Derived.Test.YtkcmhdkhdjmjeaaGreatDoorOrdB
import Derived.Test.YtkcmhdkhdjmjeaaGreatDoorLatC
namespace Go.Proofs.YtkcmhdkhdjmjeaaGreatDoor
open Go.RowKit
set_option linter.unusedVariables false
set_option linter.unusedSimpArgs false

def natsV (l : List Nat) : List Value := l.map fun x : Nat => Value.int .i64 (x : Int)
theorem natsV_length (l : List Nat) : (natsV l).length = l.length := by simp [natsV]
theorem natsV_snoc (l : List Nat) (x : Nat) : natsV l ++ [Value.int .i64 (x : Int)] = natsV (l ++ [x]) := by simp [natsV]
theorem infoInt1 : (Tryz.prog.info? 3).map (fun i => (i.zero, i.size, i.bytes)) = some (some (.int .i64 0), 1, 8) := by kernel_rfl
theorem cells_int (w : World) (u : Value) (t : TypeId) : ∀ (j : Nat) (x : Value), [u][j]? = some x → (w.alloc (.cells #[u] t)).cell? ((⟨w.heap.size, 0, none⟩ : Addr).add j) = some x := cells_one w u t
def selL (R : Rel) (a b k : Nat) : List Nat := (List.range k).filter fun x => R a x && R b x
theorem selL_yes {R : Rel} {a b k : Nat} (h : (R a k && R b k) = true) : selL R a b (k + 1) = selL R a b k ++ [k] := by simp only [selL, List.range_succ, List.filter_append, List.filter_cons, h, List.filter_nil]; rfl
theorem selL_no {R : Rel} {a b k : Nat} (h : (R a k && R b k) = false) : selL R a b (k + 1) = selL R a b k := by simp only [selL, List.range_succ, List.filter_append, List.filter_cons, h, List.filter_nil]; simp
theorem selL_length (R : Rel) (a b k : Nat) : (selL R a b k).length ≤ k := by
  have := List.length_filter_le (fun x => R a x && R b x) (List.range k)
  simpa [selL] using this
theorem selL_lt {R : Rel} {a b k x : Nat} (h : x ∈ selL R a b k) : x < k := List.mem_range.1 (List.mem_filter.1 h).1
def preT (R : Rel) (l : List Nat) (x k : Nat) : Bool := (l.take k).all fun y => R x y
theorem preT_succ (R : Rel) (l : List Nat) (x k : Nat) (hk : k < l.length) : preT R l x (k + 1) = (preT R l x k && R x l[k]) := by
  unfold preT
  rw [List.take_succ_eq_append_getElem hk, List.all_append]
  simp
theorem preT_all (R : Rel) (l : List Nat) (x : Nat) : preT R l x l.length = l.all fun y => R x y := by unfold preT; rw [List.take_length]

def SelRel (R : Rel) (a b n : Nat) (w : World) (v i : Value) (wr : World) : Prop :=
  ∃ k : Nat, i = .int .i64 k ∧ k ≤ n ∧ wr.ownsRow w.heap.size 3 1 v (selL R a b k).length (natsV (selL R a b k)) ∧ Below w.heap.size w wr
def LeastRel (R : Rel) (l : List Nat) (w : World) (i : Value) (wr : World) : Prop :=
  ∃ k m : Nat, i = .int .i64 k ∧ k ≤ l.length ∧ (∀ x (hx : x < l.length), x < k → preT R l l[x] l.length = false) ∧ wr = w.drewN m
def LeastRel2 (R : Rel) (l : List Nat) (y : Nat) (w : World) (v i : Value) (wr : World) : Prop :=
  ∃ k m : Nat, v = .bool (preT R l y k) ∧ i = .int .i64 k ∧ k ≤ l.length ∧ wr = w.drewN m

set_option maxRecDepth 100000 in
set_option maxHeartbeats 8000000 in
theorem least_any {p : OPlace} {n : Nat} {lf : Nat → Nat → Bool} {jf mf : Nat → Nat → Int} (up : Bool) (a b : Nat) (ha : a < n) (hb : b < n) (w : World) (h : OMem w p n lf jf mf) (h64 : n ≤ 64) :
    Calls Tryz.prog 58 #[.pointer (some ⟨p.o, 0, none⟩), .int .i64 a, .int .i64 b, .bool up] w fun e w' => e = .returned (.int .i64 (joinR n (dirR up lf) a b)) ∧ Below w.heap.size w w' := by
  have hcap := h.cap
  have HH := Lib.hid h
  have hn64 : (n : Int) ≤ 64 := by omega
  clear h
  obtain ⟨R, hR⟩ : ∃ R, R = dirR up lf := ⟨_, rfl⟩
  rw [← hR]
  have HJ := Lib.hid (fun l hl => least_is n R a b l hl)
  obtain ⟨i0, hi, hz0, hz1, hz2⟩ := info_parts infoInt1
  go_enter Tryz.func58, Tryz.ntmps58
  go_wp2_with fail
  go_loopw [9, 10] (fun v i wr => SelRel R a b n w v i wr) (fun _ i _ => n - (intOf i).toNat)
  case atStart => exact ⟨0, rfl, Nat.zero_le _, World.ownsRow_nil _ _ _ _, Below.refl _ _⟩
  case round =>
    obtain ⟨k, rfl, hk, hown, hbw⟩ := hrel
    have hh := HH.out.below hbw
    have c0 := hh.c0
    have c1 := hh.c1
    by_cases hkn : k < n
    · have h1 := hh.rL a ha
      have h2 := hh.rL b hb
      have h3 := hh.rL k hkn
      have e1 := hh.eL a k ha hkn
      have e2 := hh.eL b k hb hkn
      have e3 := hh.eL k a hkn ha
      have e4 := hh.eL k b hkn hb
      have hsz := hbw.size
      have hlen := selL_length R a b k
      clear hh
      cases up with
      | true =>
        have r1 : R a k = lf a k := by rw [hR]; rfl
        have r2 : R b k = lf b k := by rw [hR]; rfl
        cases hx : lf a k with
        | false =>
          rw [hx] at e1 r1
          have HN := Lib.hid (show selL R a b k = selL R a b (k + 1) from (selL_no (by rw [r1]; rfl)).symm)
          rw [HN.out] at hown
          have HO := Lib.hid hown
          clear hown hR hlen
          go_wp2
          go_roundw
          case rel => exact ⟨k + 1, by go_num, by omega, HO.out, hbw⟩
          case measure => simp [intOf]; omega
        | true =>
          rw [hx] at e1 r1
          cases hy : lf b k with
          | false =>
            rw [hy] at e2 r2
            have HN := Lib.hid (show selL R a b k = selL R a b (k + 1) from (selL_no (by rw [r1, r2]; rfl)).symm)
            rw [HN.out] at hown
            have HO := Lib.hid hown
            clear hown hR hlen
            go_wp2
            go_roundw
            case rel => exact ⟨k + 1, by go_num, by omega, HO.out, hbw⟩
            case measure => simp [intOf]; omega
          | true =>
            rw [hy] at e2 r2
            have HS := Lib.hid (show natsV (selL R a b k) ++ [Value.int .i64 (k : Int)] = natsV (selL R a b (k + 1)) from by rw [natsV_snoc, selL_yes (by rw [r1, r2]; rfl)])
            have HLN := Lib.hid (show (selL R a b k).length + 1 = (selL R a b (k + 1)).length from by rw [selL_yes (by rw [r1, r2]; rfl)]; simp)
            clear hR
            go_wp2_with (at_builtin; refine wpList_append_own _ rfl _ _ 79 rfl w.heap.size 3 i0 (.int .i64 0) 1 8 Tryz.underlying79 hi hz0 hz1 hz2 rfl (by decide) _ _ _ rfl (hown.alloc _) ⟨wr.heap.size, 0, none⟩ 1 1 [.int .i64 k] rfl rfl ?c1 ?c2 ?c3 ?c4 ?c5 ?_)
            case c1 => exact cells_int wr _ _
            case c2 => intro u hu; simp at hu; subst hu; rfl
            case c3 => unfold maxLen; omega
            case c4 => omega
            case c5 => simp; omega
            · intro v' w2 hown' hgrow _
              have hbw3 := (hbw.alloc hsz _).grown hgrow (by simp; omega) (fun k hk => (hown.lt k hk).1)
              rw [HS.out, HLN.out] at hown'
              have HO := Lib.hid hown'
              clear hown' hgrow
              go_wp2
              go_roundw
              case rel => exact ⟨k + 1, by go_num, by omega, HO.out, hbw3⟩
              case measure => simp [intOf]; omega
      | false =>
        have r1 : R a k = lf k a := by rw [hR]; rfl
        have r2 : R b k = lf k b := by rw [hR]; rfl
        cases hx : lf k a with
        | false =>
          rw [hx] at e3 r1
          have HN := Lib.hid (show selL R a b k = selL R a b (k + 1) from (selL_no (by rw [r1]; rfl)).symm)
          rw [HN.out] at hown
          have HO := Lib.hid hown
          clear hown hR hlen
          go_wp2
          go_roundw
          case rel => exact ⟨k + 1, by go_num, by omega, HO.out, hbw⟩
          case measure => simp [intOf]; omega
        | true =>
          rw [hx] at e3 r1
          cases hy : lf k b with
          | false =>
            rw [hy] at e4 r2
            have HN := Lib.hid (show selL R a b k = selL R a b (k + 1) from (selL_no (by rw [r1, r2]; rfl)).symm)
            rw [HN.out] at hown
            have HO := Lib.hid hown
            clear hown hR hlen
            go_wp2
            go_roundw
            case rel => exact ⟨k + 1, by go_num, by omega, HO.out, hbw⟩
            case measure => simp [intOf]; omega
          | true =>
            rw [hy] at e4 r2
            have HS := Lib.hid (show natsV (selL R a b k) ++ [Value.int .i64 (k : Int)] = natsV (selL R a b (k + 1)) from by rw [natsV_snoc, selL_yes (by rw [r1, r2]; rfl)])
            have HLN := Lib.hid (show (selL R a b k).length + 1 = (selL R a b (k + 1)).length from by rw [selL_yes (by rw [r1, r2]; rfl)]; simp)
            clear hR
            go_wp2_with (at_builtin; refine wpList_append_own _ rfl _ _ 79 rfl w.heap.size 3 i0 (.int .i64 0) 1 8 Tryz.underlying79 hi hz0 hz1 hz2 rfl (by decide) _ _ _ rfl (hown.alloc _) ⟨wr.heap.size, 0, none⟩ 1 1 [.int .i64 k] rfl rfl ?c1 ?c2 ?c3 ?c4 ?c5 ?_)
            case c1 => exact cells_int wr _ _
            case c2 => intro u hu; simp at hu; subst hu; rfl
            case c3 => unfold maxLen; omega
            case c4 => omega
            case c5 => simp; omega
            · intro v' w2 hown' hgrow _
              have hbw3 := (hbw.alloc hsz _).grown hgrow (by simp; omega) (fun k hk => (hown.lt k hk).1)
              rw [HS.out, HLN.out] at hown'
              have HO := Lib.hid hown'
              clear hown' hgrow
              go_wp2
              go_roundw
              case rel => exact ⟨k + 1, by go_num, by omega, HO.out, hbw3⟩
              case measure => simp [intOf]; omega
    · obtain rfl : k = n := by omega
      have HJ2 := Lib.hid (HJ.out (selL R a b k) rfl)
      have hlt := Lib.hid (fun x (hx : x ∈ selL R a b k) => selL_lt hx)
      have hl64 := selL_length R a b k
      generalize selL R a b k = l at *
      obtain ⟨A, cap, rfl, hrow, _⟩ := RowOf.own hown
      have hrc := hrow.1
      have hrm := hrow.2.1
      rw [natsV_length] at hrc
      unfold maxLen at hrm
      have HROW := Lib.hid hrow
      have HB := Lib.hid hbw
      have HHR := Lib.hid hh
      clear hown hbw hh hrow HH HJ
      go_wp2_with fail
      go_loopw [11] (fun i w2 => LeastRel R l wr i w2) (fun i _ => l.length - (intOf i).toNat)
      case atStart => exact ⟨0, 0, rfl, Nat.zero_le _, fun x hx h0 => absurd h0 (Nat.not_lt_zero _), rfl⟩
      case round =>
        obtain ⟨i, m, rfl, hil, hno, rfl⟩ := hrel
        have HNO := Lib.hid hno
        clear hno
        by_cases hin : i < l.length
        · have hli := hlt.out l[i] (List.getElem_mem hin)
          obtain ⟨g, off, rfl, hg, hcells⟩ := HROW.out.at (by intro e; have := congrArg List.length e; rw [natsV_length, List.length_nil] at this; omega)
          have hci := hcells i (by rw [natsV_length]; exact hin)
          rw [show (natsV l)[i]'(by rw [natsV_length]; exact hin) = Value.int .i64 (l[i] : Int) from by simp [natsV]] at hci
          have HCE := Lib.hid hcells
          obtain ⟨y, hy⟩ : ∃ y, y = l[i] := ⟨_, rfl⟩
          rw [← hy] at hci hli
          have HY := Lib.hid hy
          clear hcells hy
          go_wp2_with fail
          go_loopw [12, 13] (fun v q w2 => LeastRel2 R l y wr v q w2) (fun _ q _ => l.length - (intOf q).toNat)
          case atStart => exact ⟨0, m, by simp [preT], rfl, Nat.zero_le _, rfl⟩
          case round =>
            obtain ⟨q, m2, rfl, rfl, hql, rfl⟩ := hrel
            by_cases hqn : q < l.length
            · have hlq := hlt.out l[q] (List.getElem_mem hqn)
              have hcq := HCE.out q (by rw [natsV_length]; exact hqn)
              rw [show (natsV l)[q]'(by rw [natsV_length]; exact hqn) = Value.int .i64 (l[q] : Int) from by simp [natsV]] at hcq
              have HS := Lib.hid (preT_succ R l y q hqn)
              generalize l[q] = z at *
              have h1 := HHR.out.rL y hli
              have h2 := HHR.out.rL z hlq
              have e1 := HHR.out.eL y z hli hlq
              have e2 := HHR.out.eL z y hlq hli
              have hy64 : (y : Int) < k := by omega
              have hz64 : (z : Int) < k := by omega
              cases hs : preT R l y q with
              | false =>
                have HE := Lib.hid (show preT R l y (q + 1) = false from by rw [HS.out, hs]; rfl)
                clear hs hR
                go_wp2_with fail
                go_quiet (fail)
                rename_i nq
                obtain ⟨m3, e3⟩ := drewN_add wr m2 nq
                rw [e3]
                go_wp2
                go_roundw
                case rel => exact ⟨q + 1, m3, by rw [HE.out], by go_num, by omega, rfl⟩
                case measure => simp [intOf]; omega
              | true =>
                cases up with
                | true =>
                  have r1 : R y z = lf y z := by rw [hR]; rfl
                  cases hx : lf y z with
                  | true =>
                    rw [hx] at e1 r1
                    have HE := Lib.hid (show preT R l y (q + 1) = true from by rw [HS.out, hs, r1]; rfl)
                    clear hs hR r1 hx
                    go_wp2_with fail
                    go_quiet (fail)
                    rename_i nq
                    obtain ⟨m3, e3⟩ := drewN_add wr m2 nq
                    rw [e3]
                    go_wp2
                    go_roundw
                    case rel => exact ⟨q + 1, m3, by rw [HE.out], by go_num, by omega, rfl⟩
                    case measure => simp [intOf]; omega
                  | false =>
                    rw [hx] at e1 r1
                    have HE := Lib.hid (show preT R l y (q + 1) = false from by rw [HS.out, hs, r1]; rfl)
                    clear hs hR r1 hx
                    go_wp2_with fail
                    go_quiet (fail)
                    rename_i nq
                    obtain ⟨m3, e3⟩ := drewN_add wr m2 nq
                    rw [e3]
                    go_wp2
                    go_roundw
                    case rel => exact ⟨q + 1, m3, by rw [HE.out], by go_num, by omega, rfl⟩
                    case measure => simp [intOf]; omega
                | false =>
                  have r1 : R y z = lf z y := by rw [hR]; rfl
                  cases hx : lf z y with
                  | true =>
                    rw [hx] at e2 r1
                    have HE := Lib.hid (show preT R l y (q + 1) = true from by rw [HS.out, hs, r1]; rfl)
                    clear hs hR r1 hx
                    go_wp2_with fail
                    go_quiet (fail)
                    rename_i nq
                    obtain ⟨m3, e3⟩ := drewN_add wr m2 nq
                    rw [e3]
                    go_wp2
                    go_roundw
                    case rel => exact ⟨q + 1, m3, by rw [HE.out], by go_num, by omega, rfl⟩
                    case measure => simp [intOf]; omega
                  | false =>
                    rw [hx] at e2 r1
                    have HE := Lib.hid (show preT R l y (q + 1) = false from by rw [HS.out, hs, r1]; rfl)
                    clear hs hR r1 hx
                    go_wp2_with fail
                    go_quiet (fail)
                    rename_i nq
                    obtain ⟨m3, e3⟩ := drewN_add wr m2 nq
                    rw [e3]
                    go_wp2
                    go_roundw
                    case rel => exact ⟨q + 1, m3, by rw [HE.out], by go_num, by omega, rfl⟩
                    case measure => simp [intOf]; omega
            · obtain rfl : q = l.length := by omega
              cases hs : preT R l y l.length with
              | false =>
                have HE := Lib.hid hs
                clear hs hR
                go_wp2
                go_roundw
                case rel =>
                  refine ⟨i + 1, m2, by go_num, by omega, fun x hx h1 => ?_, rfl⟩
                  by_cases e : x = i
                  · subst e; rw [← HY.out]; exact HE.out
                  · exact HNO.out x hx (by omega)
                case measure => simp [intOf]; omega
              | true =>
                have HF := Lib.hid (show (joinR k R a b) = (y : Int) from by
                  rw [← HJ2.out]
                  rw [show (l.find? fun x => l.all fun y => R x y) = some y from ?_]
                  · rfl
                  rw [List.find?_eq_some_iff_getElem]
                  refine ⟨by rw [← preT_all]; exact hs, i, hin, HY.out.symm, fun j hj => ?_⟩
                  rw [← preT_all, HNO.out j (by omega) hj]
                  rfl)
                clear hs hR
                go_wp2
                go_ret
                exact ⟨ret_int HF.out.symm, below_drewN' HB.out _⟩
        · obtain rfl : i = l.length := by omega
          have HF := Lib.hid (show joinR k R a b = -1 from by
            rw [← HJ2.out]
            rw [show (l.find? fun x => l.all fun y => R x y) = none from ?_]
            · rfl
            rw [List.find?_eq_none]
            intro x hx
            obtain ⟨j, hj, rfl⟩ := List.getElem_of_mem hx
            rw [← preT_all, HNO.out j hj hj]
            decide)
          go_wp2
          go_ret
          exact ⟨ret_int HF.out.symm, below_drewN' HB.out _⟩

end Go.Proofs.YtkcmhdkhdjmjeaaGreatDoor
