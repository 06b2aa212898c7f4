/-
  Plain: blanks and punctuation (spaceB, punctB, smallI); what may open (opensB); what is beside a place (bsB, aroundB).
-/
import Derived.Test.YtpifhjdbcdcelaaDoorAsc
import Derived.Test.YtpifhjdbcdcelaaDoorRepairB
import Derived.Test.YtpifhjdbcdcelaaDoorRunes
namespace Go.Proofs.YtpifhjdbcdcelaaDoor
open Go.RowKit
set_option linter.unusedVariables false

def spaceB (r : Int) : Bool := r == 9 || r == 10 || r == 12 || r == 13 || r == 32 || r == 160 || r == 5760 || r == 8239 || r == 8287 || r == 12288 || inB r 8192 8202
def punctB (r : Int) : Bool := if inB r 0 127 then asciiB r else r == 161 || r == 167 || r == 171 || r == 182 || r == 183 || r == 187 || r == 191 || r == 8364 || (inB r 8208 8231 || inB r 8240 8259 || inB r 12289 12305)
def smallI (r : Int) : Int := if inB r 65 90 || (inB r 192 222 && r != 215) then r + 32 else r
def leftB (b a : Int) : Bool := !spaceB a && (!punctB a || spaceB b || punctB b)
def opensB (c b a : Int) : Bool := if c = 42 then leftB b a else if c = 95 then leftB b a && (!leftB a b || punctB b) else false

def shownI (r : Int) : Int := if r = 0 then 97 else r
/-- What is beside the place k of a text, read from 'pos' on, when 'last' was read ahead of it; 'e': the place is the whole text's end. -/
def bsFrom (z : ByteArray) (k : Nat) (e : Bool) : Nat → Nat → Int → Int × Int
  | 0, _, last => if e then (last, 10) else (10, 10)
  | f + 1, pos, last => if pos < z.size then (if pos = k then (last, shownI (Utf8.decode z pos).1) else bsFrom z k e f (pos + (Utf8.decode z pos).2) (shownI (Utf8.decode z pos).1)) else if e then (last, 10) else (10, 10)
def bsB (s : ByteArray) (at' : Int) : Int × Int :=
  if at' < 0 ∨ s.size < at' then (10, 10)
  else bsFrom (s.extract (at'.toNat - 4) (min s.size (at'.toNat + 4))) (at'.toNat - (at'.toNat - 4)) (at'.toNat == s.size) (s.extract (at'.toNat - 4) (min s.size (at'.toNat + 4))).size 0 10

theorem bsFrom_end (z : ByteArray) (k : Nat) (e : Bool) (f pos : Nat) (last : Int) (h : ¬ pos < z.size) : bsFrom z k e f pos last = if e then (last, 10) else (10, 10) := by
  cases f with
  | zero => rfl
  | succ f => simp [bsFrom, h]
theorem decode_fits (s : ByteArray) (pos : Nat) : ((Utf8.decode s pos).1 : Int) ≤ 1114111 := by
  have := dec_valid (s.data.toList.drop pos)
  rw [← decode_dec] at this
  have := of_valid _ this
  omega

theorem bsB_out (s : ByteArray) (a : Int) (h : a < 0 ∨ (s.size : Int) < a) : bsB s a = (10, 10) := by unfold bsB; rw [if_pos h]
theorem bsB_in (s : ByteArray) (k : Nat) (h : k ≤ s.size) : bsB s k = bsFrom (s.extract (k - 4) (min s.size (k + 4))) (k - (k - 4)) (k == s.size) (s.extract (k - 4) (min s.size (k + 4))).size 0 10 := by
  unfold bsB
  rw [if_neg (by omega)]
  rfl
theorem bsFrom_hit {z : ByteArray} {k f pos : Nat} {e : Bool} {last : Int} {out : Int × Int} (hp : pos < z.size) (hk : pos = k) (h : bsFrom z k e (f + 1) pos last = out) : out = (last, shownI (Utf8.decode z pos).1) := by
  subst hk; rw [← h]; unfold bsFrom; rw [if_pos hp, if_pos rfl]
theorem bsFrom_on {z : ByteArray} {k f pos : Nat} {e : Bool} {last : Int} {out : Int × Int} (hp : pos < z.size) (hk : ¬ pos = k) (h : bsFrom z k e (f + 1) pos last = out) : bsFrom z k e f (pos + (Utf8.decode z pos).2) (shownI (Utf8.decode z pos).1) = out := by
  rw [← h]; simp [bsFrom, hp, hk]
theorem shownI_le (r : Int) (h0 : 0 ≤ r) (h1 : r ≤ 1114111) : 0 ≤ shownI r ∧ shownI r ≤ 1114111 := by
  unfold shownI; split <;> omega
def aroundB (s : ByteArray) (a b : Int) : Int × Int := ((bsB s a).1, (bsB s b).2)
theorem bsFrom_zero (z : ByteArray) (e : Bool) (f : Nat) (h : 0 < z.size → 0 < f) (he : z.size = 0 → e = true) : (bsFrom z 0 e f 0 10).1 = 10 := by
  by_cases hz : 0 < z.size
  · obtain ⟨g, rfl⟩ : ∃ g, f = g + 1 := ⟨f - 1, by have := h hz; omega⟩
    simp [bsFrom, hz]
  · rw [bsFrom_end z 0 e f 0 10 hz, he (by omega)]; rfl
theorem bsFrom_last (z : ByteArray) (k : Nat) (e : Bool) (hk : z.size ≤ k) : ∀ (f pos : Nat) (last : Int), (bsFrom z k e f pos last).2 = 10
  | 0, pos, last => by cases e <;> rfl
  | f + 1, pos, last => by
    by_cases hp : pos < z.size
    · unfold bsFrom
      rw [if_pos hp, if_neg (by omega)]
      exact bsFrom_last z k e hk f _ _
    · rw [bsFrom_end z k e _ pos last hp]; cases e <;> rfl
theorem ends_first (s : ByteArray) : (bsB s 0).1 = 10 := by
  rw [show (0 : Int) = ((0 : Nat) : Int) from rfl, bsB_in s 0 (Nat.zero_le _)]
  refine bsFrom_zero _ _ _ (fun h => h) (fun h => ?_)
  rw [ByteArray.size_extract] at h
  simp only [beq_iff_eq]; omega
theorem ends_last (s : ByteArray) : (bsB s s.size).2 = 10 := by
  rw [bsB_in s s.size (Nat.le_refl _)]
  refine bsFrom_last _ _ _ ?_ _ _ _
  rw [ByteArray.size_extract]; omega
theorem small_space (x : Int) (h : 97 ≤ x) (h' : x ≤ 122) : spaceB x = false := by
  simp [spaceB, inB]; omega
theorem small_punct (x : Int) (h : 97 ≤ x) (h' : x ≤ 122) : punctB x = false := by
  unfold punctB asciiB
  rw [inB_t (a := 0) (b := 127) (by omega) (by omega), inB_f (a := 33) (b := 47) (by omega), inB_f (a := 58) (b := 64) (by omega), inB_f (a := 91) (b := 96) (by omega), inB_f (a := 123) (b := 126) (by omega)]
  rfl

end Go.Proofs.YtpifhjdbcdcelaaDoor
