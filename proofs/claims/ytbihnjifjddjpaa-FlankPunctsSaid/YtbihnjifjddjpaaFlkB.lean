/-
  Package flank: shown, beside, Around: what each answers, in plain words.
-/
import Derived.Test.YtbihnjifjddjpaaFlkA
import Derived.Test.YtbihnjifjddjpaaRepairB
import Derived.Test.YtbihnjifjddjpaaRunes
import Derived.Lib.MinMax
namespace Go.Proofs.Ytbihnjifjddjpaa
open Go.RowKit

def shownI (r : Int) : Int := if r = 0 then 97 else r
/-- What is beside the place k of a text, read from 'pos' on, when 'last' was read ahead of it; 'e': the place is the whole text's end. -/
def bsFrom (z : ByteArray) (k : Nat) (e : Bool) : Nat → Nat → Int → Int × Int
  | 0, _, last => if e then (last, 10) else (10, 10)
  | f + 1, pos, last => if pos < z.size then (if pos = k then (last, shownI (Utf8.decode z pos).1) else bsFrom z k e f (pos + (Utf8.decode z pos).2) (shownI (Utf8.decode z pos).1)) else if e then (last, 10) else (10, 10)
def bsB (s : ByteArray) (at' : Int) : Int × Int :=
  if at' < 0 ∨ s.size < at' then (10, 10)
  else bsFrom (s.extract (at'.toNat - 4) (min s.size (at'.toNat + 4))) (at'.toNat - (at'.toNat - 4)) (at'.toNat == s.size) (s.extract (at'.toNat - 4) (min s.size (at'.toNat + 4))).size 0 10

theorem bsFrom_end (z : ByteArray) (k : Nat) (e : Bool) (f pos : Nat) (last : Int) (h : ¬ pos < z.size) : bsFrom z k e f pos last = if e then (last, 10) else (10, 10) := by
  cases f with
  | zero => rfl
  | succ f => simp [bsFrom, h]

theorem shown_any (r : Int) (w : World) :
    Calls Try.prog 18 #[.int .i32 r] w fun e w' => e = .returned (.int .i32 (shownI r)) ∧ w = w' := by
  go_enter Try.func18, Try.ntmps18
  go_wp2
  all_goals (go_ret; exact ⟨ret_i32 (by simp_all [shownI]), rfl⟩)

theorem decode_fits (s : ByteArray) (pos : Nat) : ((Utf8.decode s pos).1 : Int) ≤ 1114111 := by
  have := dec_valid (s.data.toList.drop pos)
  rw [← decode_dec] at this
  have := of_valid _ this
  omega

theorem bsB_out (s : ByteArray) (a : Int) (h : a < 0 ∨ (s.size : Int) < a) : bsB s a = (10, 10) := by unfold bsB; rw [if_pos h]
theorem bsB_in (s : ByteArray) (k : Nat) (h : k ≤ s.size) : bsB s k = bsFrom (s.extract (k - 4) (min s.size (k + 4))) (k - (k - 4)) (k == s.size) (s.extract (k - 4) (min s.size (k + 4))).size 0 10 := by
  unfold bsB
  rw [if_neg (by omega)]
  rfl
theorem bsFrom_hit {z : ByteArray} {k f pos : Nat} {e : Bool} {last : Int} {out : Int × Int} (hp : pos < z.size) (hk : pos = k) (h : bsFrom z k e (f + 1) pos last = out) : out = (last, shownI (Utf8.decode z pos).1) := by
  subst hk; rw [← h]; unfold bsFrom; rw [if_pos hp, if_pos rfl]
theorem bsFrom_on {z : ByteArray} {k f pos : Nat} {e : Bool} {last : Int} {out : Int × Int} (hp : pos < z.size) (hk : ¬ pos = k) (h : bsFrom z k e (f + 1) pos last = out) : bsFrom z k e f (pos + (Utf8.decode z pos).2) (shownI (Utf8.decode z pos).1) = out := by
  rw [← h]; simp [bsFrom, hp, hk]
theorem shownI_le (r : Int) (h0 : 0 ≤ r) (h1 : r ≤ 1114111) : 0 ≤ shownI r ∧ shownI r ≤ 1114111 := by
  unfold shownI; split <;> omega

def BsRel (z : ByteArray) (w : World) (kk : Nat) (e : Bool) (out : Int × Int) (last : Value) (wr : World) : Prop :=
  ∃ (pos fuel : Nat) (lst : Int), last = .int .i32 lst ∧ wr.heap[w.heap.size]? = some (.stringIter z pos) ∧ Below w.heap.size w wr ∧ bsFrom z kk e fuel pos lst = out ∧ z.size ≤ pos + fuel

set_option maxHeartbeats 4000000 in
set_option maxRecDepth 1000000 in
theorem beside_any (s : ByteArray) (a : Int) (w : World) (hs : s.size ≤ 17592186044416) :
    Calls Try.prog 15 #[.string s, .int .i64 a] w fun e w' => e = .returned (.tuple #[.int .i32 (bsB s a).1, .int .i32 (bsB s a).2]) ∧ Below w.heap.size w w' := by
  by_cases h0 : a < 0
  · rw [bsB_out s a (Or.inl h0)]
    go_enter Try.func15, Try.ntmps15
    go_wp2
    go_ret2
    exact ⟨rfl, Below.refl _ w⟩
  by_cases h1 : (s.size : Int) < a
  · rw [bsB_out s a (Or.inr h1)]
    go_enter Try.func15, Try.ntmps15
    go_wp2
    go_ret2
    exact ⟨rfl, Below.refl _ w⟩
  obtain ⟨k, rfl⟩ := Int.eq_ofNat_of_zero_le (show 0 ≤ a by omega)
  have hk : k ≤ s.size := by omega
  rw [bsB_in s k hk]
  obtain ⟨st, hst⟩ : ∃ st, st = k - 4 := ⟨_, rfl⟩
  obtain ⟨en, hen⟩ : ∃ en, en = min s.size (k + 4) := ⟨_, rfl⟩
  rw [← hst, ← hen]
  have hmx : max (0 : Int) ((k : Int) - 4) = (st : Int) := by omega
  have hmn : min (s.size : Int) ((k : Int) + 4) = (en : Int) := by omega
  have hse : st ≤ en := by omega
  have hes : en ≤ s.size := by omega
  have hsl := fun W => slice_lohi s (st : Int) (en : Int) st en rfl rfl hse hes W
  obtain ⟨z, hz⟩ : ∃ z, z = s.extract st en := ⟨_, rfl⟩
  rw [← hz] at hsl ⊢
  obtain ⟨kk, hkk⟩ : ∃ kk, kk = k - st := ⟨_, rfl⟩
  rw [← hkk]
  have hks : st + kk = k := by omega
  generalize hE : (k == s.size) = E
  generalize hO : bsFrom z kk E z.size 0 10 = out
  have HO := Lib.hid hO
  have HE := Lib.hid hE
  have HK := Lib.hid hks
  have HZ := Lib.hid hz
  clear hz hkk hst hen hO hE hks
  go_enter Try.func15, Try.ntmps15
  go_wp2_with fail
  go_loopw [8] (fun last wr => BsRel z w kk E out last wr) (fun _ wr => z.size - wr.iterPos w.heap.size)
  case atStart =>
    refine ⟨0, z.size, 10, rfl, ?_, (Below.refl _ w).alloc (Nat.le_refl _) _, HO.out, by omega⟩
    have := World.iter_heap w z 0
    simpa using this
  case round =>
    obtain ⟨pos, fuel, lst, rfl, hit, hbw, hacc, hfu⟩ := hrel
    have hsz : w.heap.size < wr.heap.size := (Array.getElem?_eq_some_iff.1 hit).1
    by_cases hp : pos < z.size
    · have hnx : ∀ ty, (Instr.next (.pointer (some ⟨w.heap.size, 0, none⟩)) true ty).run Try.prog wr = _ := fun ty => Lib.run_next_any_at wr w.heap.size z pos ty hit hp
      have hwd := width_pos z pos hp
      have hd1 := decode_fits z pos
      have hit2 := Lib.iterAt_heap wr w.heap.size z pos (pos + (Utf8.decode z pos).2) hit
      have hbw2 := Lib.below_iterAt hbw (k := w.heap.size) (by omega) z (pos + (Utf8.decode z pos).2)
      obtain ⟨f, rfl⟩ : ∃ f, fuel = f + 1 := ⟨fuel - 1, by omega⟩
      have Hit := Lib.hid hit
      have sh := shown_any (Utf8.decode z pos).1 (wr.iterAt w.heap.size z (pos + (Utf8.decode z pos).2))
      have hzs : z.size ≤ 8 := by rw [HZ.out]; simp; omega
      clear hbw hit
      by_cases hpk : pos = kk
      · have HS := Lib.hid (bsFrom_hit hp hpk hacc)
        have heq : ((st : Int) + (pos : Int) == (k : Int)) = true := by have := HK.out; simp; omega
        clear hacc
        subst hpk
        go_wp2_with fail
        refine sh.mono ?_
        rintro e w1 ⟨rfl, rfl⟩
        go_wp2
        go_ret2
        exact ⟨by rw [HS.out]; rfl, hbw2⟩
      · have HS := Lib.hid (bsFrom_on hp hpk hacc)
        have heq : ((st : Int) + (pos : Int) == (k : Int)) = false := by have := HK.out; simp; omega
        clear hacc
        go_wp2_with fail
        refine sh.mono ?_
        rintro e w1 ⟨rfl, rfl⟩
        go_wp2
        go_roundw
        case rel => exact ⟨_, f, _, rfl, hit2, hbw2, HS.out, by omega⟩
        case measure => simp only [World.iterPos, hit2, Hit.out]; omega
    · have hnx : ∀ ty, (Instr.next (.pointer (some ⟨w.heap.size, 0, none⟩)) true ty).run Try.prog wr = _ := fun ty => Lib.run_next_end_at wr w.heap.size z pos ty hit hp
      rw [bsFrom_end z kk E fuel pos lst hp] at hacc
      cases E with
      | true =>
        have heq : ((k : Int) == (s.size : Int)) = true := by have := HE.out; simp at this; simp; omega
        have HA := Lib.hid hacc
        clear hacc
        go_wp2
        go_ret2
        exact ⟨by rw [← HA.out]; rfl, hbw⟩
      | false =>
        have heq : ((k : Int) == (s.size : Int)) = false := by have := HE.out; simp at this; simp; omega
        have HA := Lib.hid hacc
        clear hacc
        go_wp2
        go_ret2
        exact ⟨by rw [← HA.out]; rfl, hbw⟩

def aroundB (s : ByteArray) (a b : Int) : Int × Int := ((bsB s a).1, (bsB s b).2)
theorem around_any (s : ByteArray) (a b : Int) (w : World) (hs : s.size ≤ 17592186044416) :
    Calls Try.prog 12 #[.string s, .int .i64 a, .int .i64 b] w fun e w' => e = .returned (.tuple #[.int .i32 (aroundB s a b).1, .int .i32 (aroundB s a b).2]) ∧ Below w.heap.size w w' := by
  have c1 := beside_any s a w hs
  have c2 := fun w1 => beside_any s b w1 hs
  have C1 := Lib.hid c1
  have C2 := Lib.hid c2
  clear c1 c2 hs
  go_enter Try.func12, Try.ntmps12
  go_wp2_with fail
  refine C1.out.mono ?_
  rintro e w1 ⟨rfl, b1⟩
  go_wp2_with fail
  refine (C2.out _).mono ?_
  rintro e w2 ⟨rfl, b2⟩
  go_wp2
  go_ret2
  exact ⟨rfl, b1.then b2⟩

end Go.Proofs.Ytbihnjifjddjpaa
