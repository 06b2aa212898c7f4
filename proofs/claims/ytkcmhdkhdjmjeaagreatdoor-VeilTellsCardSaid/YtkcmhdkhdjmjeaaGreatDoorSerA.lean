/-
  Plain facts of readers: a label's level, what labels are seen together.
  Package veil: a reader in memory; isNone, levelOf, Unknown, Sees.
  Package veil: New: a reader of a policy.
-/
import Derived.Test.YtkcmhdkhdjmjeaaGreatDoorLatP
import Derived.Test.YtkcmhdkhdjmjeaaGreatDoorPolA
import Derived.Test.YtkcmhdkhdjmjeaaGreatDoorLatA
import Derived.Test.YtkcmhdkhdjmjeaaGreatDoorBase
import Derived.Deep.RegionHeld3
import Derived.Test.YtkcmhdkhdjmjeaaGreatDoorLatC
import Derived.Lib.SliceRun
namespace Go.Proofs.YtkcmhdkhdjmjeaaGreatDoor
open Go.RowKit
set_option linter.unusedSimpArgs false
set_option linter.unusedVariables false

/-- A label's level: a name's own one; else the top. -/
def lvN (ns : List (List UInt8)) (R : Rel) (x : List UInt8) : Nat := (if 0 ≤ idxL ns x then idxL ns x else topR ns.length R).toNat
def joinN (n : Nat) (R : Rel) (a b : Nat) : Nat := (joinR n R a b).toNat
def botN (n : Nat) (R : Rel) : Nat := (botR n R).toNat
def jnL (ns : List (List UInt8)) (R : Rel) (ls : List (List UInt8)) (j : Nat) : Nat := ls.foldl (fun j x => joinN ns.length R j (lvN ns R x)) j
def seesL (ns : List (List UInt8)) (R : Rel) (me : Nat) (ls : List (List UInt8)) : Bool := R (jnL ns R ls (botN ns.length R)) me
def svL (ns : List (List UInt8)) (R : Rel) (me : Nat) (x : List UInt8) : Bool := R (lvN ns R x) me

section
variable {ns : List (List UInt8)} {R : Rel} {me : Nat}
theorem lvN_spec (h : Lat ns.length R) (hn : 1 ≤ ns.length) (x : List UInt8) : lvN ns R x < ns.length ∧ (if 0 ≤ idxL ns x then idxL ns x else topR ns.length R) = (lvN ns R x : Int) := by
  unfold lvN
  have hr := idxL_range ns x
  split
  · constructor <;> omega
  · obtain ⟨t, e, ht, _⟩ := h.top hn
    rw [e]
    constructor <;> omega
theorem joinN_spec (h : Lat ns.length R) {a b : Nat} (ha : a < ns.length) (hb : b < ns.length) : joinR ns.length R a b = (joinN ns.length R a b : Int) ∧ IsJoin ns.length R a b (joinN ns.length R a b) := by
  obtain ⟨j, e, hj⟩ := h.join ha hb
  unfold joinN
  rw [e]
  exact ⟨rfl, hj⟩
theorem botN_spec (h : Lat ns.length R) (hn : 1 ≤ ns.length) : botR ns.length R = (botN ns.length R : Int) ∧ botN ns.length R < ns.length ∧ ∀ y, y < ns.length → R (botN ns.length R) y = true := by
  obtain ⟨t, e, h1, h2⟩ := h.bot hn
  unfold botN
  rw [e]
  exact ⟨rfl, h1, h2⟩
theorem jnL_lt (h : Lat ns.length R) (hn : 1 ≤ ns.length) : ∀ (ls : List (List UInt8)) (j : Nat), j < ns.length → jnL ns R ls j < ns.length
  | [], j, hj => hj
  | x :: ls, j, hj => jnL_lt h hn ls _ (joinN_spec h hj (lvN_spec h hn x).1).2.1
theorem jnL_leq (h : Lat ns.length R) (hn : 1 ≤ ns.length) (hm : me < ns.length) : ∀ (ls : List (List UInt8)) (j : Nat), j < ns.length → R (jnL ns R ls j) me = (R j me && ls.all (svL ns R me))
  | [], j, hj => by simp [jnL]
  | x :: ls, j, hj => by
    have hx := (lvN_spec h hn x).1
    have hj2 := (joinN_spec h hj hx).2
    have ih := jnL_leq h hn hm ls _ hj2.1
    have e : jnL ns R (x :: ls) j = jnL ns R ls (joinN ns.length R j (lvN ns R x)) := rfl
    rw [e, ih, List.all_cons]
    have hk : R (joinN ns.length R j (lvN ns R x)) me = (R j me && svL ns R me x) := by
      rw [Bool.eq_iff_iff, Bool.and_eq_true]
      unfold svL
      constructor
      · intro h1
        exact ⟨h.trans _ _ _ hj hm hj2.1 hj2.2.1 h1, h.trans _ _ _ hx hm hj2.1 hj2.2.2.1 h1⟩
      · rintro ⟨h1, h2⟩
        exact hj2.2.2.2 me hm h1 h2
    rw [hk, Bool.and_assoc]
/-- Labels are seen together just if each is. -/
theorem seesL_all (h : Lat ns.length R) (hn : 1 ≤ ns.length) (hm : me < ns.length) (ls : List (List UInt8)) : seesL ns R me ls = ls.all (svL ns R me) := by
  obtain ⟨_, h1, h2⟩ := botN_spec h hn
  unfold seesL
  rw [jnL_leq h hn hm ls _ h1, h2 me hm, Bool.true_and]
theorem seesL_one (h : Lat ns.length R) (hn : 1 ≤ ns.length) (hm : me < ns.length) (x : List UInt8) : seesL ns R me [x] = svL ns R me x := by rw [seesL_all h hn hm]; simp
end

end Go.Proofs.YtkcmhdkhdjmjeaaGreatDoor

namespace Go.Proofs.YtkcmhdkhdjmjeaaGreatDoor
open Go.RowKit
set_option linter.unusedSimpArgs false
set_option linter.unusedVariables false

/-- The reader in block b: the levels' names, their order, who it is. -/
structure SeerAt (w : World) (b : Nat) (A : Option Addr) (ca lb : Nat) (ns : List (List UInt8)) (R : Rel) (me : Nat) : Prop where
  c0 : w.cell? ⟨b, 0, none⟩ = some (.slice A ns.length ca)
  c1 : w.cell? ⟨b, 1, none⟩ = some (.slice none 0 0)
  c2 : w.cell? ⟨b, 2, none⟩ = some (.pointer (some ⟨lb, 0, none⟩))
  c3 : w.cell? ⟨b, 3, none⟩ = some (.int .i64 me)
  row : RowOf w A ca (strs ns)
  lat : LatIs w lb ns.length R
  tab : TabIs w
  lt : me < ns.length
  sound : Sound ns.length R
section
variable {w w' : World} {b ca lb me : Nat} {A : Option Addr} {ns : List (List UInt8)} {R : Rel}
theorem SeerAt.blt (h : SeerAt w b A ca lb ns R me) : b < w.heap.size := World.block_lt_of_cell? _ _ h.c0
theorem SeerAt.below (h : SeerAt w b A ca lb ns R me) (hb : Below w.heap.size w w') : SeerAt w' b A ca lb ns R me := by
  have hl := h.blt
  have e : ∀ i, w'.cell? ⟨b, i, none⟩ = w.cell? ⟨b, i, none⟩ := fun i => hb.cell (p := ⟨b, i, none⟩) hl
  exact ⟨by rw [e]; exact h.c0, by rw [e]; exact h.c1, by rw [e]; exact h.c2, by rw [e]; exact h.c3, h.row.below hb, h.lat.below hb, h.tab.below hb, h.lt, h.sound⟩
theorem SeerAt.pos (h : SeerAt w b A ca lb ns R me) : 1 ≤ ns.length := h.lat.pos
theorem SeerAt.L (h : SeerAt w b A ca lb ns R me) : Lat ns.length R := ⟨h.lat.refl, h.lat.trans, h.sound⟩

theorem isNone_any (h : SeerAt w b A ca lb ns R me) : Calls Tryz.prog 25 #[.pointer (some ⟨b, 0, none⟩)] w fun e w' => e = .returned (.bool false) ∧ w' = w := by
  have h2 := h.c2
  clear h
  go_enter Tryz.func25, Tryz.ntmps25
  go_wp2
  go_ret
  exact ⟨rfl, rfl⟩
theorem isNone_nil (w : World) : Calls Tryz.prog 25 #[.pointer none] w fun e w' => e = .returned (.bool true) ∧ w' = w := by
  go_enter Tryz.func25, Tryz.ntmps25
  go_wp2
  go_ret
  exact ⟨rfl, rfl⟩
theorem idx_nonneg (ns : List (List UInt8)) (x : List UInt8) : idxL ns x = -1 ∨ ∃ k : Nat, idxL ns x = k := by
  have := idxL_range ns x
  by_cases h : idxL ns x = -1
  · exact Or.inl h
  · exact Or.inr ⟨(idxL ns x).toNat, by omega⟩
theorem levelOf_any (h : SeerAt w b A ca lb ns R me) (x : ByteArray) :
    Calls Tryz.prog 28 #[.pointer (some ⟨b, 0, none⟩), .string x] w fun e w' => e = .returned (.int .i64 (lvN ns R x.data.toList)) ∧ Below w.heap.size w w' := by
  have hl := (lvN_spec h.L h.pos x.data.toList).2
  have ci := index_any A ca (.slice none 0 0) ns x w h.row
  have h0 := h.c0
  have h1 := h.c1
  have h2 := h.c2
  have HS := Lib.hid h
  clear h
  go_enter Tryz.func28, Tryz.ntmps28
  rcases idx_nonneg ns x.data.toList with hi | ⟨k, hi⟩
  · rw [hi] at hl ci
    rw [if_neg (by omega)] at hl
    clear hi
    go_wp2_with fail
    refine ci.mono ?_
    rintro e w1 ⟨rfl, b1⟩
    have hs1 := HS.out.below b1
    have h21 := hs1.c2
    have ct := top_any w1 hs1.tab hs1.lat
    rw [hl] at ct
    clear hs1 hl
    go_wp2_with fail
    refine ct.mono ?_
    rintro e w2 ⟨rfl, m, rfl⟩
    go_wp2
    go_ret
    exact ⟨rfl, below_drewN' b1 m⟩
  · rw [hi] at hl ci
    rw [if_pos (by omega)] at hl
    clear hi
    go_wp2_with fail
    refine ci.mono ?_
    rintro e w1 ⟨rfl, b1⟩
    have HL := Lib.hid hl
    clear hl
    go_wp2
    go_ret
    exact ⟨ret_int HL.out, b1⟩
theorem unknown_any (h : SeerAt w b A ca lb ns R me) (x : ByteArray) :
    Calls Tryz.prog 9 #[.pointer (some ⟨b, 0, none⟩), .string x] w fun e w' => e = .returned (.bool (decide (idxL ns x.data.toList < 0))) ∧ Below w.heap.size w w' := by
  have ci := index_any A ca (.slice none 0 0) ns x w h.row
  have cn := isNone_any h
  have h0 := h.c0
  have h1 := h.c1
  clear h
  go_enter Tryz.func9, Tryz.ntmps9
  go_wp2_with fail
  refine cn.mono ?_
  rintro e w1 ⟨rfl, rfl⟩
  go_wp2_with fail
  refine ci.mono ?_
  rintro e w1 ⟨rfl, b1⟩
  go_wp2
  go_ret
  exact ⟨rfl, b1⟩
theorem unknown_nil (w : World) (x : ByteArray) : Calls Tryz.prog 9 #[.pointer none, .string x] w fun e w' => e = .returned (.bool false) ∧ Below w.heap.size w w' := by
  have cn := isNone_nil w
  go_enter Tryz.func9, Tryz.ntmps9
  go_wp2_with fail
  refine cn.mono ?_
  rintro e w1 ⟨rfl, rfl⟩
  go_wp2
  go_ret
  exact ⟨rfl, Below.refl _ _⟩

def SeesRel (ns : List (List UInt8)) (R : Rel) (ls : List (List UInt8)) (w : World) (j i : Value) (wr : World) : Prop :=
  ∃ k : Nat, i = .int .i64 k ∧ k ≤ ls.length ∧ j = .int .i64 (jnL ns R (ls.take k) (botN ns.length R)) ∧ Below w.heap.size w wr
theorem jnL_take (ns : List (List UInt8)) (R : Rel) (ls : List (List UInt8)) (k j : Nat) (hk : k < ls.length) : jnL ns R (ls.take (k + 1)) j = joinN ns.length R (jnL ns R (ls.take k) j) (lvN ns R ls[k]) := by
  rw [List.take_succ_eq_append_getElem hk]
  unfold jnL
  rw [List.foldl_append]
  rfl
theorem level_held {w0 : World} (h : SeerAt w0 b A ca lb ns R me) (x : ByteArray) (W : World) (hW : W.cell? ⟨b, 2, none⟩ = some (.pointer (some ⟨lb, 0, none⟩)) ∧ Below w0.heap.size w0 W) :
    Calls Tryz.prog 28 #[.pointer (some ⟨b, 0, none⟩), .string x] W fun e w' => e = .returned (.int .i64 (lvN ns R x.data.toList)) ∧ (w'.cell? ⟨b, 2, none⟩ = some (.pointer (some ⟨lb, 0, none⟩)) ∧ Below w0.heap.size w0 w') := by
  have h2 := h.below hW.2
  refine (levelOf_any h2 x).mono ?_
  rintro e w' ⟨rfl, b1⟩
  exact ⟨rfl, (h2.below b1).c2, hW.2.then b1⟩
theorem join_held {w0 : World} (h : SeerAt w0 b A ca lb ns R me) (x y : Nat) (hx : x < ns.length) (hy : y < ns.length) (W : World) (hW : W.cell? ⟨b, 2, none⟩ = some (.pointer (some ⟨lb, 0, none⟩)) ∧ Below w0.heap.size w0 W) :
    Calls Tryz.prog 27 #[.pointer (some ⟨lb, 0, none⟩), .int .i64 x, .int .i64 y] W fun e w' => e = .returned (.int .i64 (joinN ns.length R x y)) ∧ (w'.cell? ⟨b, 2, none⟩ = some (.pointer (some ⟨lb, 0, none⟩)) ∧ Below w0.heap.size w0 w') := by
  have h2 := h.below hW.2
  have hj := join_in x y hx hy W h2.tab h2.lat
  rw [(joinN_spec h.L hx hy).1] at hj
  refine hj.mono ?_
  rintro e w' ⟨rfl, m, rfl⟩
  exact ⟨rfl, hW.1, below_drewN' hW.2 m⟩
set_option maxHeartbeats 2000000 in
theorem sees_any (h : SeerAt w b A ca lb ns R me) (B : Option Addr) (cb : Nat) (ls : List (List UInt8)) (hrow : RowOf w B cb (strs ls)) :
    Calls Tryz.prog 8 #[.pointer (some ⟨b, 0, none⟩), .slice B ls.length cb] w fun e w' => e = .returned (.bool (seesL ns R me ls)) ∧ Below w.heap.size w w' := by
  have hc1 := hrow.1
  have hc2 := hrow.2.1
  rw [strs_length] at hc1
  unfold maxLen at hc2
  have cn := isNone_any h
  have h2 := h.c2
  have cb' := bot_any w h.tab h.lat
  rw [(botN_spec h.L h.pos).1] at cb'
  have HS := Lib.hid h
  clear h
  go_enter Tryz.func8, Tryz.ntmps8
  go_wp2_with fail
  refine cn.mono ?_
  rintro e w1 ⟨rfl, hw1⟩
  have hw1 := hw1.symm
  subst hw1
  go_wp2_with fail
  refine cb'.mono ?_
  rintro e w1 ⟨rfl, m, rfl⟩
  go_wp2_with fail
  go_loopw [5, 17] (fun j i wr => SeesRel ns R ls w j i wr) (fun _ i _ => ls.length - (intOf i).toNat)
  case atStart => exact ⟨0, rfl, Nat.zero_le _, rfl, below_drewN' (Below.refl _ _) m⟩
  case round =>
    obtain ⟨k, rfl, hk, rfl, hbw⟩ := hrel
    have hs := HS.out.below hbw
    have hjl := jnL_lt HS.out.L HS.out.pos (ls.take k) _ (botN_spec HS.out.L HS.out.pos).2.1
    by_cases hp : k < ls.length
    · obtain ⟨b1, o1, rfl, hl1, hc⟩ := (hrow.below hbw).cellAt hp
      have hJT := Lib.hid (jnL_take ns R ls k (botN ns.length R) hp)
      have hy := (lvN_spec hs.L hs.pos ls[k]).1
      generalize jnL ns R (ls.take k) (botN ns.length R) = j at *
      have hS : wr.drew.cell? ⟨b, 2, none⟩ = some (.pointer (some ⟨lb, 0, none⟩)) ∧ Below wr.heap.size wr wr.drew := ⟨hs.c2, (Below.refl _ _).drew⟩
      have HC := Lib.hid (fun W hW => level_held hs ⟨ls[k].toArray⟩ W hW)
      have HJ := Lib.hid (fun W hW => join_held hs j (lvN ns R ls[k]) hjl hy W hW)
      have HBW := Lib.hid hbw
      clear hs hbw
      go_wp2_with fail
      go_region_held3 (fun W => W.cell? ⟨b, 2, none⟩ = some (.pointer (some ⟨lb, 0, none⟩)) ∧ Below wr.heap.size wr W) (assumption) (first | (go_at_call 28; (with_reducible refine (HC.out _ (by assumption)).mono ?_); rintro e w5 ⟨rfl, hS5⟩) | (go_at_call 27; (with_reducible refine (HJ.out _ (by assumption)).mono ?_); rintro e w6 ⟨rfl, hS6⟩))
      have hb6 := hS6.2
      clear hS6
      go_wp2
      go_roundw
      case rel => exact ⟨k + 1, by go_num, by omega, by rw [hJT.out], HBW.out.then hb6⟩
      case measure => simp [intOf]; omega
    · obtain rfl : k = ls.length := by omega
      rw [List.take_length] at *
      have h2' := hs.c2
      have h3' := hs.c3
      have cl := fun m => leq_in (jnL ns R ls (botN ns.length R)) me hjl hs.lt (wr.drewN m) (hs.lat.heap rfl)
      have HR := Lib.hid (show seesL ns R me ls = R (jnL ns R ls (botN ns.length R)) me from rfl)
      have HCL := Lib.hid cl
      clear hs cl
      generalize jnL ns R ls (botN ns.length R) = j at *
      go_wp2_with fail
      go_quiet ((go_at_call 29; exact Calls.quiet_of_same (HCL.out _)))
      go_wp2
      go_ret
      exact ⟨ret_bool HR.out.symm, below_drewN' hbw _⟩
theorem sees_nil (w : World) (v : Value) : Calls Tryz.prog 8 #[.pointer none, v] w fun e w' => e = .returned (.bool false) ∧ Below w.heap.size w w' := by
  have cn := isNone_nil w
  go_enter Tryz.func8, Tryz.ntmps8
  go_wp2_with fail
  refine cn.mono ?_
  rintro e w1 ⟨rfl, rfl⟩
  go_wp2
  go_ret
  exact ⟨rfl, Below.refl _ _⟩
end

end Go.Proofs.YtkcmhdkhdjmjeaaGreatDoor

namespace Go.Proofs.YtkcmhdkhdjmjeaaGreatDoor
open Go.RowKit
set_option linter.unusedSimpArgs false
set_option linter.unusedVariables false
set_option maxRecDepth 100000

theorem clone_any (A : Option Addr) (ca : Nat) (ns : List (List UInt8)) (w : World) (hrow : RowOf w A ca (strs ns)) (hne : 1 ≤ ns.length) (hm : ns.length ≤ 1000) :
    Calls Tryz.prog 21 #[.slice A ns.length ca] w fun e w' => ∃ A2 c2, e = .returned (.slice A2 ns.length c2) ∧ RowOf w' A2 c2 (strs ns) ∧ Below w.heap.size w w' := by
  obtain ⟨b, off, rfl, hb, hc⟩ := hrow.cellAt (k := 0) (by omega)
  have hs0 := alloc_size w (.cells #[] 9)
  have b0 : Below w.heap.size w (w.alloc (.cells #[] 9)) := (Below.refl _ w).alloc (Nat.le_refl _) _
  have hown0 : (w.alloc (.cells #[] 9)).ownsRow w.heap.size 9 1 (.slice (some ⟨w.heap.size, 0, none⟩) 0 0) ([] : List (List UInt8)).length (strs []) :=
    ⟨rfl, .inr ⟨w.heap.size, 0, #[], rfl, Nat.le_refl _, heap_alloc_new w _, Nat.le_refl _, Nat.zero_le _, rfl, rfl⟩⟩
  have hrow0 := hrow.alloc (.cells #[] 9)
  have HB0 := Lib.hid b0
  have qe : ∀ (w : World) (a : Option Addr) (n c n' c' : Nat), (binOp .eql 22 (.slice a n c) (.slice none n' c')).run Tryz.prog w = .ok (.bool a.isNone) w := fun w a n c n' c' => Lib.run_eql_slice_nil w _ _ a n c n' c' Tryz.underlying22
  clear b0 hc
  go_enter Tryz.func21, Tryz.ntmps21
  go_wp2_with (at_builtin; refine append_strs rfl _ _ rfl w.heap.size (.slice (some ⟨w.heap.size, 0, none⟩) 0 0) [] rfl hown0 (some ⟨b, off, none⟩) ca ns rfl hrow0 (by simp) (by simp; omega) (by omega) ?_)
  intro v' w2 hown2 hgr2
  have b2 := HB0.out.trans (below_of_grown hgr2 (fun g hg => (hown0.lt g hg).1) (by omega))
  obtain ⟨A2, c2, rfl, hr2, _⟩ := RowOf.own hown2
  go_wp2
  go_ret
  exact ⟨A2, c2, rfl, hr2, b2⟩

/-- The error of a new reader. -/
def newErr (st : St) (x : List UInt8) : Int := if rightL st = false then 1 else if errS st.1.length st.2 ≠ 0 then 1 else if idxL st.1 x < 0 then 2 else 0
def NewIs (w : World) (st : St) (x : List UInt8) (e : Ending) (w' : World) : Prop :=
  Below w.heap.size w w' ∧ ((newErr st x ≠ 0 ∧ e = .returned (.tuple #[.pointer none, .int .i64 (newErr st x)])) ∨
    (newErr st x = 0 ∧ ∃ b A2 c2 lb, e = .returned (.tuple #[.pointer (some ⟨b, 0, none⟩), .int .i64 0]) ∧ w.heap.size ≤ b ∧ SeerAt w' b A2 c2 lb st.1 (leqS st.1.length st.2) (idxL st.1 x).toNat))
theorem cells4 (w : World) (u0 u1 u2 u3 : Value) (t : TypeId) : (w.alloc (.cells #[u0, u1, u2, u3] t)).cell? ⟨w.heap.size, 0, none⟩ = some u0 ∧ (w.alloc (.cells #[u0, u1, u2, u3] t)).cell? ⟨w.heap.size, 1, none⟩ = some u1 ∧
    (w.alloc (.cells #[u0, u1, u2, u3] t)).cell? ⟨w.heap.size, 2, none⟩ = some u2 ∧ (w.alloc (.cells #[u0, u1, u2, u3] t)).cell? ⟨w.heap.size, 3, none⟩ = some u3 := by
  refine ⟨?_, ?_, ?_, ?_⟩ <;> rw [cell_of_row _ _ _ #[u0, u1, u2, u3] t (0, 0) (heap_alloc_new w _)] <;> rfl

set_option maxHeartbeats 2000000 in
theorem newSeer_any (A : Option Addr) (ca : Nat) (B : Option Addr) (cb : Nat) (st : St) (x : ByteArray) (w : World) (hT : TabIs w) (hrow : RowOf w A ca (strs st.1)) (hpr : PairsAt w B cb st.2) (hz : ∀ y ∈ st.1, y.length ≤ 9223372036854775807) :
    Calls Tryz.prog 5 #[.agg #[.slice A st.1.length ca, .slice B st.2.length cb], .string x] w (NewIs w st x.data.toList) := by
  obtain ⟨ns, ps⟩ := st
  simp only at *
  have hbx := box_cell w (.slice A ns.length ca) (.slice B ps.length cb) 26
  have hb0 : Below w.heap.size w (w.alloc (.cells #[.slice A ns.length ca, .slice B ps.length cb] 26)) := (Below.refl _ w).alloc (Nat.le_refl _) _
  have hs0 := alloc_size w (.cells #[.slice A ns.length ca, .slice B ps.length cb] 26)
  have cr := polRight_any A ca B cb (ns, ps) _ (hrow.below hb0) (hpr.below hb0) hz
  simp only at cr
  have HROW := Lib.hid (hrow.below hb0)
  have HPR := Lib.hid (hpr.below hb0)
  have HT := Lib.hid (hT.below hb0)
  have HB0 := Lib.hid hb0
  clear hrow hpr hT hb0
  go_enter Tryz.func5, Tryz.ntmps5
  go_wp2_with fail
  generalize w.alloc (.cells #[.slice A ns.length ca, .slice B ps.length cb] 26) = w0 at *
  cases hr : rightL (ns, ps) with
  | false =>
    have HF := Lib.hid (show newErr (ns, ps) x.data.toList = 1 from if_pos hr)
    rw [hr] at cr
    clear hr
    refine cr.mono ?_
    rintro e w1 ⟨rfl, b1⟩
    go_wp2
    go_ret2
    exact ⟨HB0.out.then b1, Or.inl ⟨by rw [HF.out]; decide, by rw [HF.out]; rfl⟩⟩
  | true =>
    have hR := (rightL_iff _).1 hr
    simp only at hR
    rw [hr] at cr
    refine cr.mono ?_
    rintro e w1 ⟨rfl, b1⟩
    have hx0 := (b1.cell (p := ⟨w.heap.size, 0, none⟩) (World.block_lt_of_cell? _ _ hbx.1)).trans hbx.1
    have hx1 := (b1.cell (p := ⟨w.heap.size, 1, none⟩) (World.block_lt_of_cell? _ _ hbx.2)).trans hbx.2
    have hrow1 := HROW.out.below b1
    have hpr1 := HPR.out.below b1
    have hT1 := HT.out.below b1
    have HB1 := Lib.hid (HB0.out.then b1)
    clear b1 cr hbx
    by_cases he : errS ns.length ps = 0
    · have cl := new_ok B cb ns.length ps w1 hT1 hpr1 he
      have HE := Lib.hid he
      have HROW1 := Lib.hid hrow1
      have HT1 := Lib.hid hT1
      clear he hrow1 hpr1 hT1
      go_wp2_with fail
      refine cl.mono ?_
      rintro e w2 ⟨lb, rfl, b2, hlb, hlat⟩
      have hx02 := (b2.cell (p := ⟨w.heap.size, 0, none⟩) (World.block_lt_of_cell? _ _ hx0)).trans hx0
      have hx12 := (b2.cell (p := ⟨w.heap.size, 1, none⟩) (World.block_lt_of_cell? _ _ hx1)).trans hx1
      have hrow2 := HROW1.out.below b2
      have ci := index_any A ca (.slice B ps.length cb) ns x w2 hrow2
      have HROW2 := Lib.hid hrow2
      have HT2 := Lib.hid (HT1.out.below b2)
      have HB2 := Lib.hid (HB1.out.then b2)
      have HLAT := Lib.hid hlat
      clear b2 hlat hx0 hx1 hrow2 cl hlb
      rcases idx_nonneg ns x.data.toList with hi | ⟨k, hi⟩
      · have HF := Lib.hid (show newErr (ns, ps) x.data.toList = 2 from by unfold newErr; rw [if_neg (by rw [hr]; simp), if_neg (by simpa using HE.out), if_pos (by simp only; omega)])
        rw [hi] at ci
        clear hi hr
        go_wp2_with fail
        refine ci.mono ?_
        rintro e w3 ⟨rfl, b3⟩
        go_wp2
        go_ret2
        exact ⟨HB2.out.then b3, Or.inl ⟨by rw [HF.out]; decide, by rw [HF.out]; rfl⟩⟩
      · have hkr := idxL_range ns x.data.toList
        have HF := Lib.hid (show newErr (ns, ps) x.data.toList = 0 from by unfold newErr; rw [if_neg (by rw [hr]; simp), if_neg (by simpa using HE.out), if_neg (by simp only; omega)])
        rw [hi] at ci hkr
        have HI := Lib.hid hi
        clear hi hr
        go_wp2_with fail
        refine ci.mono ?_
        rintro e w3 ⟨rfl, b3⟩
        have hx03 := (b3.cell (p := ⟨w.heap.size, 0, none⟩) (World.block_lt_of_cell? _ _ hx02)).trans hx02
        have hrow3 := HROW2.out.below b3
        have cc := clone_any A ca ns w3 hrow3 hR.1.1 (by have := hR.1.2; omega)
        have HLAT3 := Lib.hid (HLAT.out.below b3)
        have HT3 := Lib.hid (HT2.out.below b3)
        have HB3 := Lib.hid (HB2.out.then b3)
        clear b3 hrow3 hx02 hx12 ci
        go_wp2_with fail
        refine cc.mono ?_
        rintro e w4 ⟨A2, c2, rfl, hr4, b4⟩
        have HLAT4 := Lib.hid (HLAT3.out.below b4)
        have HT4 := Lib.hid (HT3.out.below b4)
        have HB4 := Lib.hid (HB3.out.then b4)
        have HR4 := Lib.hid hr4
        clear b4 hr4
        go_wp2
        go_ret2
        have b5 : Below w4.heap.size w4 (w4.alloc (.cells #[.slice A2 ns.length c2, .slice none 0 0, .pointer (some ⟨lb, 0, none⟩), .int .i64 k] 51)) := (Below.refl _ w4).alloc (Nat.le_refl _) _
        obtain ⟨q0, q1, q2, q3⟩ := cells4 w4 (.slice A2 ns.length c2) (.slice none 0 0) (.pointer (some ⟨lb, 0, none⟩)) (.int .i64 k) 51
        refine ⟨HB4.out.then b5, Or.inr ⟨HF.out, w4.heap.size, A2, c2, lb, rfl, HB4.out.size, ?_⟩⟩
        rw [HI.out, Int.toNat_natCast]
        exact ⟨q0, q1, q2, q3, HR4.out.below b5, HLAT4.out.below b5, HT4.out.below b5, by show k < ns.length; omega, (errS_zero HE.out).2.2.2⟩
    · have HF := Lib.hid (show newErr (ns, ps) x.data.toList = 1 from by unfold newErr; rw [if_neg (by rw [hr]; simp), if_pos he])
      have cl := new_err B cb ns.length (errS ns.length ps) ps w1 hT1 hpr1 rfl he
      have fe : (errS ns.length ps != 0) = true := by simpa using he
      clear hr he hR hrow1 hpr1 hT1
      generalize errS ns.length ps = z at *
      go_wp2_with fail
      refine cl.mono ?_
      rintro e w2 ⟨rfl, b2⟩
      go_wp2
      go_ret2
      exact ⟨HB1.out.then b2, Or.inl ⟨by rw [HF.out]; decide, by rw [HF.out]; rfl⟩⟩

end Go.Proofs.YtkcmhdkhdjmjeaaGreatDoor
