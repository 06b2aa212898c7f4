/-
  Plain facts for BlockCodes: lines in a fence of five ~ that hold no five ~ are code.
-/
import Derived.Test.YtoleoigpijgboaaDoorBkP
namespace Go.Proofs.YtoleoigpijgboaaDoor
set_option linter.unusedSimpArgs false
set_option linter.unusedVariables false

def til5 : List UInt8 := [126, 126, 126, 126, 126]
/-- Somewhere in a text five ~ stand side by side. -/
def HasTil (x : List UInt8) : Prop := ∃ p, p + 5 ≤ x.length ∧ (x.drop p).take 5 = til5
theorem row_take (c : UInt8) : ∀ (n : Nat) (l : List UInt8), n ≤ mkRow c l → l.take n = List.replicate n c
  | 0, l, _ => rfl
  | n + 1, [], h => by simp [mkRow] at h
  | n + 1, b :: l, h => by
    by_cases hb : b = c
    · rw [mkRow_cons hb] at h
      rw [List.take_succ_cons, row_take c n l (by omega), hb]
      rfl
    · rw [mkRow_other hb] at h
      omega
theorem closes_til {x : List UInt8} (h : mkCloses x 126 ((5 : Nat) : Int) = true) : HasTil x := by
  unfold mkCloses at h
  rw [Bool.and_eq_true] at h
  have h5 : 5 ≤ mkRow 126 (mkBegin x) := by
    have := of_decide_eq_true h.1
    omega
  have h6 := mkRow_le 126 (mkBegin x)
  have ht := row_take 126 5 (mkBegin x) h5
  unfold mkBegin at h6 ht h5
  split at ht
  · rename_i hc
    rw [if_pos hc] at h6 h5
    rw [List.length_drop] at h6
    exact ⟨mSize x, by omega, ht⟩
  · simp at ht
/-- A fence of five ~. -/
def fl5 (info : List UInt8) : List UInt8 := til5 ++ 32 :: info
theorem fl5_fence {info : List UInt8} (h : Low info) : mkFence (fl5 info) = some (126, 5, info) := mkFence_made (n := 5) (by omega) (Or.inr rfl) h
theorem fl5_cols (info : List UInt8) : mCols (fl5 info) 0 = 0 := mCols_other (by decide)
theorem strip_none (x : List UInt8) : stripL x 0 = expandL x := rfl
theorem stripped_none (ls : List (List UInt8)) : strippedL 0 ls = ls.map expandL := rfl
theorem til5_closes : mkCloses til5 126 ((5 : Nat) : Int) = true := by decide
theorem find_none (ls : List (List UInt8)) (h : ∀ x ∈ ls, ¬ HasTil x) : ls.findIdx? (fun s => mkCloses s 126 ((5 : Nat) : Int)) = none := by
  rw [List.findIdx?_eq_none_iff]
  intro x hx
  cases hc : mkCloses x 126 ((5 : Nat) : Int) with
  | false => rfl
  | true => exact absurd (closes_til hc) (h x hx)
theorem find_end (ls m : List (List UInt8)) (h : ∀ x ∈ ls, ¬ HasTil x) : (ls ++ til5 :: m).findIdx? (fun s => mkCloses s 126 ((5 : Nat) : Int)) = some ls.length := by
  rw [List.findIdx?_append, find_none ls h, List.findIdx?_cons, til5_closes]
  simp
theorem leaf_fl5 (info : List UInt8) (r : List (List UInt8)) (hi : Low info) : leafL (fl5 info :: r) = fencedL (fl5 info :: r) 126 5 info := by
  unfold leafL
  rw [List.headD_cons, fl5_cols, if_neg (by omega), fl5_fence hi]
theorem first_fl5 (info : List UInt8) (r : List (List UInt8)) (hi : Low info) (b : Blk) (n : Nat) (hb : b.depth = 0) (hn : 0 < n) (hf : fencedL (fl5 info :: r) 126 5 info = (b, n)) : firstM 12 (fl5 info :: r) = ([b], n) := by
  show firstL (10 - ((10 : Nat) : Int)) _ _ _ = _
  unfold firstL
  rw [leaf_fl5 info r hi, hf, List.headD_cons, if_neg (by rw [show (fl5 info).all isGap = false from rfl]; simp), if_pos hn]
  obtain ⟨k, d, n', t, tx, i⟩ := b
  dsimp only at hb
  subst hb
  rfl
theorem parse_fence (info : List UInt8) (hi : Low info) (ls m : List (List UInt8)) (h : ∀ x ∈ ls, ¬ HasTil x) : parseB (fl5 info :: (ls ++ til5 :: m)) = ⟨6, 0, 0, false, joinL (ls.map expandL), info⟩ :: parseB m := by
  have hf : fencedL (fl5 info :: (ls ++ til5 :: m)) 126 5 info = (⟨6, 0, 0, false, joinL (ls.map expandL), info⟩, ls.length + 2) := by
    unfold fencedL
    rw [List.tail_cons, find_end ls m h]
    dsimp only
    rw [List.headD_cons, fl5_cols, stripped_none, List.take_append_of_le_length (Nat.le_refl _), List.take_length]
  show allL 12 _ = _
  rw [allL_step 12 _ (by simp), first_fl5 info _ hi _ _ rfl (by omega) hf]
  dsimp only
  rw [show (fl5 info :: (ls ++ til5 :: m)).drop (ls.length + 2) = m from by
    rw [List.drop_succ_cons, List.drop_append, List.drop_of_length_le (by omega), show ls.length + 1 - ls.length = 1 from by omega]
    rfl]
  rfl
theorem parse_open (info : List UInt8) (hi : Low info) (ls : List (List UInt8)) (h : ∀ x ∈ ls, ¬ HasTil x) : parseB (fl5 info :: ls) = [⟨6, 0, 0, false, joinL (ls.map expandL), info⟩] := by
  have hf : fencedL (fl5 info :: ls) 126 5 info = (⟨6, 0, 0, false, joinL (ls.map expandL), info⟩, ls.length + 1) := by
    unfold fencedL
    rw [List.tail_cons, find_none ls h]
    dsimp only
    rw [List.headD_cons, fl5_cols, stripped_none, List.length_cons]
  show allL 12 _ = _
  rw [allL_step 12 _ (by simp), first_fl5 info _ hi _ _ rfl (by omega) hf]
  dsimp only
  rw [List.drop_of_length_le (by simp), allL_nil]
  rfl
def endW : List UInt8 := [101, 110, 100]
theorem parse_end : parseB [endW] = [⟨1, 0, 0, false, endW, []⟩] := by decide +kernel
theorem parse_codes (info : List UInt8) (hi : Low info) (ls : List (List UInt8)) (h : ∀ x ∈ ls, ¬ HasTil x) : parseB ((fl5 info :: ls) ++ [til5, endW]) = [⟨6, 0, 0, false, joinL (ls.map expandL), info⟩, ⟨1, 0, 0, false, endW, []⟩] := by
  rw [List.cons_append, parse_fence info hi ls [endW] h, parse_end]

end Go.Proofs.YtoleoigpijgboaaDoor
