/-
  EntityNumbers: plain facts: a number's digits, and what they are read as.
  EntityTells: plain facts: the document's way to find an entity, and ours.
-/
import Derived.Test.YtioolcnoiaoflaaGreatDoorEntB
import Derived.Test.YtioolcnoiaoflaaGreatDoorEntNb
namespace Go.Proofs.YtioolcnoiaoflaaGreatDoor
open Go.RowKit
set_option linter.unusedSimpArgs false
set_option linter.unusedVariables false

def foldV (base : Int) : Int → List UInt8 → Int
  | u, [] => u
  | u, b :: l => foldV base (u * base + digV base b.toNat) l
def AllDig (base : Int) (ds : List UInt8) : Prop := ∀ b ∈ ds, digOk base b.toNat = true
theorem numGo_digits (base : Int) (most : Nat) (more : List UInt8) : ∀ (ds : List UInt8) (i : Nat) (u : Int), AllDig base ds → i + ds.length ≤ most → 0 < i + ds.length →
    numGo base most (ds ++ 59 :: more) i u = some (foldV base u ds, i + ds.length)
  | [], i, u, _, h1, h2 => numGo_end (by decide) (by simpa using h2)
  | b :: l, i, u, ha, h1, h2 => by
    simp only [List.length_cons] at h1 h2
    rw [List.cons_append, numGo_more (ha b (by simp)) (by omega), numGo_digits base most more l (i + 1) _ (fun x hx => ha x (by simp [hx])) (by omega) (by omega), foldV, List.length_cons]
    congr 2
    omega

/-- What is still to be told, and what has been told of a number. -/
def DigRel (base : Int) (m : Nat) (v W : Int) (ds : List UInt8) : Prop :=
  0 ≤ W ∧ AllDig base ds ∧ foldV base W ds = v ∧ ds.length ≤ m ∧ W < base ^ (m - ds.length)
theorem DigRel.start {base : Int} {m : Nat} {v : Int} (h0 : 0 ≤ v) (h : v < base ^ m) : DigRel base m v v [] := ⟨h0, (by intro b hb; cases hb), rfl, by simp, by simpa using h⟩
theorem DigRel.step {base : Int} {m : Nat} {v W : Int} {ds : List UInt8} (h : DigRel base m v W ds) (hb : 2 ≤ base) (hm : 0 < W ∨ ds = []) (h0 : 0 < m) (d : UInt8) (hd : digOk base d.toNat = true) (hv : digV base d.toNat = W % base) :
    DigRel base m v (W / base) (d :: ds) := by
  obtain ⟨h1, h2, h3, h4, h5⟩ := h
  have hlt : ds.length < m := by
    rcases hm with hm | hm
    · rcases Nat.lt_or_eq_of_le h4 with h | h
      · exact h
      · rw [h, Nat.sub_self, Int.pow_zero] at h5; omega
    · subst hm; simpa using h0
  refine ⟨Int.ediv_nonneg h1 (by omega), ?_, ?_, by simp; omega, ?_⟩
  · intro b hb
    rcases List.mem_cons.1 hb with rfl | hb
    · exact hd
    · exact h2 b hb
  · rw [foldV, hv, Int.mul_comm, Int.mul_ediv_add_emod]; exact h3
  · refine Int.ediv_lt_of_lt_mul (by omega) ?_
    rw [← Int.pow_succ, List.length_cons, show (m - (ds.length + 1)).succ = m - ds.length from by omega]
    exact h5
theorem DigRel.done {base : Int} {m : Nat} {v : Int} {ds : List UInt8} (h : DigRel base m v 0 ds) (hne : ds ≠ []) (more : List UInt8) : numGo base m (ds ++ 59 :: more) 0 0 = some (v, ds.length) := by
  obtain ⟨h1, h2, h3, h4, h5⟩ := h
  have hl := List.length_pos_iff.2 hne
  rw [numGo_digits base m more ds 0 0 h2 (by omega) (by omega), h3, Nat.zero_add]

theorem dig_not (d : UInt8) (h : digOk 10 d.toNat = true) : d ≠ 120 ∧ d ≠ 88 := by
  constructor
  · rintro rfl; revert h; decide
  · rintro rfl; revert h; decide
theorem at_dec {v : Int} {ds : List UInt8} (h : DigRel 10 7 v 0 ds) (hne : ds ≠ []) (more : List UInt8) : atRet (38 :: 35 :: (ds ++ 59 :: more)) = .tuple #[.string (chrB v), .int .i64 ((ds.length : Int) + 3)] := by
  have hd := h.done hne more
  obtain ⟨d, l, rfl⟩ := List.exists_cons_of_ne_nil hne
  have hx := dig_not d (h.2.1 d (by simp))
  have e1 : Lib.hasPrefix (38 :: 35 :: ((d :: l) ++ 59 :: more)) [38, 35, 120] = false := by
    simp [Lib.hasPrefix, List.isPrefixOf]; exact fun e => hx.1 e.symm
  have e2 : Lib.hasPrefix (38 :: 35 :: ((d :: l) ++ 59 :: more)) [38, 35, 88] = false := by
    simp [Lib.hasPrefix, List.isPrefixOf]; exact fun e => hx.2 e.symm
  have e3 : Lib.hasPrefix (38 :: 35 :: ((d :: l) ++ 59 :: more)) [38, 35] = true := by
    simp [Lib.hasPrefix, List.isPrefixOf]
  unfold atRet atL numAt
  rw [e1, e2, e3]
  simp only [Bool.false_eq_true, if_false, if_true, List.drop_succ_cons, List.drop_zero]
  rw [hd]
  simp; omega
theorem at_hex {v : Int} {x : UInt8} {ds : List UInt8} (hx : x = 120 ∨ x = 88) (h : DigRel 16 6 v 0 ds) (hne : ds ≠ []) (more : List UInt8) : atRet (38 :: 35 :: x :: (ds ++ 59 :: more)) = .tuple #[.string (chrB v), .int .i64 ((ds.length : Int) + 4)] := by
  have hd := h.done hne more
  have e : atL (38 :: 35 :: x :: (ds ++ 59 :: more)) = numAt 16 3 6 (38 :: 35 :: x :: (ds ++ 59 :: more)) := by
    unfold atL
    rcases hx with rfl | rfl
    · rw [if_pos (by simp [Lib.hasPrefix, List.isPrefixOf])]
    · rw [if_neg (by simp [Lib.hasPrefix, List.isPrefixOf]), if_pos (by simp [Lib.hasPrefix, List.isPrefixOf])]
  unfold atRet
  rw [e]
  unfold numAt
  simp only [List.drop_succ_cons, List.drop_zero]
  rw [hd]
  simp; omega

/-- A hex digit of either case. -/
def hexI (upper : Bool) (r : Nat) : Int := if r < 10 then 48 + r else if upper then 55 + r else 87 + r
def hexS (upper : Bool) : ByteArray := if upper then ⟨#[48, 49, 50, 51, 52, 53, 54, 55, 56, 57, 65, 66, 67, 68, 69, 70]⟩ else ⟨#[48, 49, 50, 51, 52, 53, 54, 55, 56, 57, 97, 98, 99, 100, 101, 102]⟩
theorem hexI_bd (upper : Bool) (r : Nat) (h : r < 16) : 0 ≤ hexI upper r ∧ hexI upper r ≤ 255 := by
  unfold hexI; cases upper <;> simp <;> split <;> omega
theorem hex_dig : ∀ (upper : Bool) (r : Nat), r < 16 → digOk 16 (((hexI upper r).toNat.toUInt8).toNat : Int) = true ∧ digV 16 (((hexI upper r).toNat.toUInt8).toNat : Int) = r := by decide +kernel
theorem dec_dig : ∀ (r : Nat), r < 10 → digOk 10 (((48 + (r : Int)).toNat.toUInt8).toNat : Int) = true ∧ digV 10 (((48 + (r : Int)).toNat.toUInt8).toNat : Int) = r := by decide +kernel
theorem hex_index_true : ∀ (r : Nat), r < 16 → ∀ w : World, (Instr.index 9 (.string ⟨#[48, 49, 50, 51, 52, 53, 54, 55, 56, 57, 65, 66, 67, 68, 69, 70]⟩) (.int .i64 r)).run Tryz.prog w = .ok (.int .u8 (hexI true r)) w
  | 0, _, _ => by kernel_rfl
  | 1, _, _ => by kernel_rfl
  | 2, _, _ => by kernel_rfl
  | 3, _, _ => by kernel_rfl
  | 4, _, _ => by kernel_rfl
  | 5, _, _ => by kernel_rfl
  | 6, _, _ => by kernel_rfl
  | 7, _, _ => by kernel_rfl
  | 8, _, _ => by kernel_rfl
  | 9, _, _ => by kernel_rfl
  | 10, _, _ => by kernel_rfl
  | 11, _, _ => by kernel_rfl
  | 12, _, _ => by kernel_rfl
  | 13, _, _ => by kernel_rfl
  | 14, _, _ => by kernel_rfl
  | 15, _, _ => by kernel_rfl
  | n + 16, h, _ => by omega
theorem hex_index_false : ∀ (r : Nat), r < 16 → ∀ w : World, (Instr.index 9 (.string ⟨#[48, 49, 50, 51, 52, 53, 54, 55, 56, 57, 97, 98, 99, 100, 101, 102]⟩) (.int .i64 r)).run Tryz.prog w = .ok (.int .u8 (hexI false r)) w
  | 0, _, _ => by kernel_rfl
  | 1, _, _ => by kernel_rfl
  | 2, _, _ => by kernel_rfl
  | 3, _, _ => by kernel_rfl
  | 4, _, _ => by kernel_rfl
  | 5, _, _ => by kernel_rfl
  | 6, _, _ => by kernel_rfl
  | 7, _, _ => by kernel_rfl
  | 8, _, _ => by kernel_rfl
  | 9, _, _ => by kernel_rfl
  | 10, _, _ => by kernel_rfl
  | 11, _, _ => by kernel_rfl
  | 12, _, _ => by kernel_rfl
  | 13, _, _ => by kernel_rfl
  | 14, _, _ => by kernel_rfl
  | 15, _, _ => by kernel_rfl
  | n + 16, h, _ => by omega

theorem conv_byte (w : World) (v : Int) (h0 : 0 ≤ v) (h1 : v ≤ 255) :
    (convert 87 9 (.slice (some ⟨w.heap.size, 0, none⟩) 1 1)).run Tryz.prog (w.alloc (.cells #[.int .u8 v] 5)) = .ok (.string ⟨#[v.toNat.toUInt8]⟩) (w.alloc (.cells #[.int .u8 v] 5)) := by
  exact run_convert_bytes_back (w.alloc (.cells #[.int .u8 v] 5)) 87 9 5 ⟨w.heap.size, 0, none⟩ 1 [v.toNat.toUInt8] Tryz.underlying87 Tryz.underlying5 Tryz.underlying9 (fun j hj => by
    simp only [List.length_cons, List.length_nil] at hj
    obtain rfl : j = 0 := by omega
    have e : ((v.toNat.toUInt8).toNat : Int) = v := by
      rw [Nat.toUInt8_eq, UInt8.toNat_ofNat']
      omega
    show _ = some (Value.int .u8 ((v.toNat.toUInt8).toNat : Int))
    rw [e]
    simp [Addr.add])

end Go.Proofs.YtioolcnoiaoflaaGreatDoor

namespace Go.Proofs.YtioolcnoiaoflaaGreatDoor
open Go.RowKit
set_option linter.unusedSimpArgs false
set_option linter.unusedVariables false

def runesL : List Int := [38, 60, 62, 34, 39, 160, 169, 174, 176, 167, 182, 183, 233, 228, 246, 252, 223, 8211, 8212, 8230, 8364, 8592, 8594]
theorem rune_text : ∀ k : Nat, k < 23 → Utf8.encode (runesL.getD k 0) = txB k
  | 0, _ => by decide +kernel
  | 1, _ => by decide +kernel
  | 2, _ => by decide +kernel
  | 3, _ => by decide +kernel
  | 4, _ => by decide +kernel
  | 5, _ => by decide +kernel
  | 6, _ => by decide +kernel
  | 7, _ => by decide +kernel
  | 8, _ => by decide +kernel
  | 9, _ => by decide +kernel
  | 10, _ => by decide +kernel
  | 11, _ => by decide +kernel
  | 12, _ => by decide +kernel
  | 13, _ => by decide +kernel
  | 14, _ => by decide +kernel
  | 15, _ => by decide +kernel
  | 16, _ => by decide +kernel
  | 17, _ => by decide +kernel
  | 18, _ => by decide +kernel
  | 19, _ => by decide +kernel
  | 20, _ => by decide +kernel
  | 21, _ => by decide +kernel
  | 22, _ => by decide +kernel
  | n + 23, h => by omega
/-- Does the text begin with the k-th name's entity? -/
def hitB (l : List UInt8) (k : Nat) : Bool := Lib.hasPrefix l (38 :: ((nmB k).data.toList ++ [59]))
theorem hit_at (l : List UInt8) (k : Nat) (hk : k < 23) (h : hitB l k = true) : atRet l = .tuple #[.string (txB k), .int .i64 (((nmB k).size : Int) + 2)] := by
  unfold hitB Lib.hasPrefix at h
  obtain ⟨rest, hr⟩ := List.isPrefixOf_iff_prefix.1 h
  have e : l = 38 :: ((nmB k).data.toList ++ 59 :: rest) := by rw [← hr]; simp
  rw [e]
  exact nm_at k hk rest
theorem nameGo_some : ∀ (l : List UInt8) (i j : Nat), nameGo l i = some j → ∃ k rest, j = i + k ∧ l = l.take k ++ 59 :: rest
  | [], i, j, h => by simp [nameGo] at h
  | b :: l, i, j, h => by
    rw [nameGo] at h
    split at h
    · rename_i h59
      have hb : b = 59 := UInt8.toNat_inj.1 (by rw [h59]; rfl)
      injection h with h
      exact ⟨0, l, by omega, by rw [hb]; rfl⟩
    · split at h
      · obtain ⟨k, rest, h1, h2⟩ := nameGo_some l (i + 1) j h
        exact ⟨k + 1, rest, by omega, by rw [List.take_succ_cons, List.cons_append, ← h2]⟩
      · cases h
theorem lookL_some {x t : List UInt8} (h : lookL x = some t) : ∃ k, k < 23 ∧ (nmB k).data.toList = x := by
  unfold lookL at h
  obtain ⟨e, he, _⟩ := Option.map_eq_some_iff.1 h
  have h1 := List.find?_some he
  have h2 := List.mem_of_find?_eq_some he
  obtain ⟨k, hk, hke⟩ := List.mem_iff_getElem.1 h2
  have hl := namedL_length
  refine ⟨k, by omega, ?_⟩
  have : (nmB k).data.toList = namedL[k].1 := by simp [nmB, hk]
  rw [this, hke]
  simpa using h1
theorem name_none (l : List UInt8) (h : ∀ k, k < 23 → hitB (38 :: l) k = false) : nameAt (38 :: l) = (ByteArray.empty, 0) := by
  unfold nameAt
  rw [show (38 :: l : List UInt8).drop 1 = l from rfl]
  cases hg : nameGo l 0 with
  | none => rfl
  | some i =>
    obtain ⟨k, rest, h1, h2⟩ := nameGo_some l 0 i hg
    obtain rfl : i = k := by omega
    unfold nameOf
    cases ht : lookL (l.take i) with
    | none => simp [ht]
    | some t =>
      obtain ⟨j, hj, hx⟩ := lookL_some ht
      have h3 := h j hj
      exfalso
      have : hitB (38 :: l) j = true := by
        unfold hitB Lib.hasPrefix
        rw [hx, List.isPrefixOf_iff_prefix]
        exact ⟨rest, by rw [List.cons_append, List.append_assoc]; congr 1; exact h2.symm⟩
      rw [this] at h3
      cases h3
theorem numGo_short (base : Int) (m : Nat) : ∀ (l : List UInt8), l.length ≤ 1 → 0 < m → numGo base m l 0 0 = none
  | [], _, _ => rfl
  | [b], _, hm => by
    rw [numGo, if_neg (by omega)]
    split
    · rfl
    · rfl
theorem pre2 (l : List UInt8) (h : Lib.hasPrefix l [38, 35] = true) : ∃ r, l = 38 :: 35 :: r := by
  unfold Lib.hasPrefix at h
  obtain ⟨r, hr⟩ := List.isPrefixOf_iff_prefix.1 h
  exact ⟨r, hr.symm⟩
theorem pre2_three (l : List UInt8) (x : UInt8) (h : Lib.hasPrefix l [38, 35] = false) : Lib.hasPrefix l [38, 35, x] = false := by
  rw [Bool.eq_false_iff] at h ⊢
  intro h2
  apply h
  unfold Lib.hasPrefix at h2 ⊢
  obtain ⟨r, hr⟩ := List.isPrefixOf_iff_prefix.1 h2
  exact List.isPrefixOf_iff_prefix.2 ⟨x :: r, by rw [← hr]; simp⟩
/-- No name, and no '&#' with two bytes more: no entity. -/
theorem at_none (l : List UInt8) (h : ∀ k, k < 23 → hitB l k = false) (hs : l.length < 4 ∨ Lib.hasPrefix l [38, 35] = false) : atRet l = .tuple #[.string ByteArray.empty, .int .i64 0] := by
  have hz : atL l = (ByteArray.empty, 0) := by
    cases h2 : Lib.hasPrefix l [38, 35] with
    | true =>
      have hs : l.length < 4 := by rcases hs with hs | hs; exact hs; rw [h2] at hs; cases hs
      obtain ⟨r, rfl⟩ := pre2 l h2
      simp only [List.length_cons] at hs
      have n1 : numAt 16 3 6 (38 :: 35 :: r) = (ByteArray.empty, 0) := by
        unfold numAt
        rw [numGo_short 16 6 _ (by simp; omega) (by omega)]
      have n2 : numAt 10 2 7 (38 :: 35 :: r) = (ByteArray.empty, 0) := by
        unfold numAt
        rw [numGo_short 10 7 _ (by simp; omega) (by omega)]
      unfold atL
      rw [n1, n2, h2]
      simp
    | false =>
      unfold atL
      rw [pre2_three l _ h2, pre2_three l _ h2, h2]
      simp only [Bool.false_eq_true, if_false]
      split
      · rename_i h1
        unfold Lib.hasPrefix at h1
        obtain ⟨r, hr⟩ := List.isPrefixOf_iff_prefix.1 h1
        obtain rfl : l = 38 :: r := hr.symm
        exact name_none r h
      · rfl
  unfold atRet
  rw [hz]
  rfl
theorem at_hexN (x : UInt8) (r : List UInt8) (hx : x = 120 ∨ x = 88) : atL (38 :: 35 :: x :: r) = numAt 16 3 6 (38 :: 35 :: x :: r) := by
  unfold atL
  rcases hx with rfl | rfl
  · rw [if_pos (by simp [Lib.hasPrefix, List.isPrefixOf])]
  · rw [if_neg (by simp [Lib.hasPrefix, List.isPrefixOf]), if_pos (by simp [Lib.hasPrefix, List.isPrefixOf])]
theorem at_decN (x : UInt8) (r : List UInt8) (hx : ¬ (x = 120 ∨ x = 88)) : atL (38 :: 35 :: x :: r) = numAt 10 2 7 (38 :: 35 :: x :: r) := by
  unfold atL
  rw [if_neg (by simp [Lib.hasPrefix, List.isPrefixOf]; intro e; exact hx (.inl e.symm)), if_neg (by simp [Lib.hasPrefix, List.isPrefixOf]; intro e; exact hx (.inr e.symm)), if_pos (by simp [Lib.hasPrefix, List.isPrefixOf])]

/-- Where a name stands; -1. -/
def idxI (l : List UInt8) : Int := match namesL.findIdx? (· == l) with | some k => k | none => -1
theorem find_idx {α β : Type} [BEq α] [LawfulBEq α] (x : α) : ∀ L : List (α × β), (match (L.map (·.1)).findIdx? (· == x) with | some k => k < L.length ∧ L.find? (fun e => e.1 == x) = L[k]? | none => L.find? (fun e => e.1 == x) = none)
  | [] => by simp
  | e :: L => by
    have ih := find_idx x L
    by_cases h : e.1 == x
    · simp [List.findIdx?_cons, h]
    · simp only [List.map_cons, List.findIdx?_cons, h, List.find?_cons]
      cases hf : (L.map (·.1)).findIdx? (· == x) with
      | none => rw [hf] at ih; simpa using ih
      | some k => rw [hf] at ih; simp only [Bool.false_eq_true, if_false, Option.map_some] at ih ⊢; exact ⟨by simp; omega, by simpa using ih.2⟩
/-- The name's index and what Named answers. -/
theorem idx_named (l : List UInt8) : (idxI l = -1 ∧ namedR l = .tuple #[.string ByteArray.empty, .bool false]) ∨ ∃ k : Nat, k < 23 ∧ idxI l = k ∧ namedR l = .tuple #[.string (txB k), .bool true] := by
  have h := find_idx l namedL
  unfold idxI namedR lookL namesL
  have hl := namedL_length
  cases hf : (namedL.map (·.1)).findIdx? (· == l) with
  | none =>
    rw [hf] at h
    simp only at h
    left
    rw [h]
    exact ⟨rfl, rfl⟩
  | some k =>
    rw [hf] at h
    simp only at h
    right
    obtain ⟨h1, h2⟩ := h
    refine ⟨k, by omega, rfl, ?_⟩
    rw [h2, List.getElem?_eq_getElem h1]
    simp [txB, h1]

end Go.Proofs.YtioolcnoiaoflaaGreatDoor
