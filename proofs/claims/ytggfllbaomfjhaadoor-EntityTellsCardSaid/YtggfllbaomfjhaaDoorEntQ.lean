/-
  EntityNumbers: plain facts: a number's digits, and what they are read as.
-/
import Derived.Test.YtggfllbaomfjhaaDoorEntM
namespace Go.Proofs.YtggfllbaomfjhaaDoor
open Go.RowKit
set_option linter.unusedSimpArgs false
set_option linter.unusedVariables false

def foldV (base : Int) : Int → List UInt8 → Int
  | u, [] => u
  | u, b :: l => foldV base (u * base + digV base b.toNat) l
def AllDig (base : Int) (ds : List UInt8) : Prop := ∀ b ∈ ds, digOk base b.toNat = true
theorem numGo_digits (base : Int) (most : Nat) (more : List UInt8) : ∀ (ds : List UInt8) (i : Nat) (u : Int), AllDig base ds → i + ds.length ≤ most → 0 < i + ds.length →
    numGo base most (ds ++ 59 :: more) i u = some (foldV base u ds, i + ds.length)
  | [], i, u, _, h1, h2 => numGo_end (by decide) (by simpa using h2)
  | b :: l, i, u, ha, h1, h2 => by
    simp only [List.length_cons] at h1 h2
    rw [List.cons_append, numGo_more (ha b (by simp)) (by omega), numGo_digits base most more l (i + 1) _ (fun x hx => ha x (by simp [hx])) (by omega) (by omega), foldV, List.length_cons]
    congr 2
    omega

/-- What is still to be told, and what has been told of a number. -/
def DigRel (base : Int) (m : Nat) (v W : Int) (ds : List UInt8) : Prop :=
  0 ≤ W ∧ AllDig base ds ∧ foldV base W ds = v ∧ ds.length ≤ m ∧ W < base ^ (m - ds.length)
theorem DigRel.start {base : Int} {m : Nat} {v : Int} (h0 : 0 ≤ v) (h : v < base ^ m) : DigRel base m v v [] := ⟨h0, (by intro b hb; cases hb), rfl, by simp, by simpa using h⟩
theorem DigRel.step {base : Int} {m : Nat} {v W : Int} {ds : List UInt8} (h : DigRel base m v W ds) (hb : 2 ≤ base) (hm : 0 < W ∨ ds = []) (h0 : 0 < m) (d : UInt8) (hd : digOk base d.toNat = true) (hv : digV base d.toNat = W % base) :
    DigRel base m v (W / base) (d :: ds) := by
  obtain ⟨h1, h2, h3, h4, h5⟩ := h
  have hlt : ds.length < m := by
    rcases hm with hm | hm
    · rcases Nat.lt_or_eq_of_le h4 with h | h
      · exact h
      · rw [h, Nat.sub_self, Int.pow_zero] at h5; omega
    · subst hm; simpa using h0
  refine ⟨Int.ediv_nonneg h1 (by omega), ?_, ?_, by simp; omega, ?_⟩
  · intro b hb
    rcases List.mem_cons.1 hb with rfl | hb
    · exact hd
    · exact h2 b hb
  · rw [foldV, hv, Int.mul_comm, Int.mul_ediv_add_emod]; exact h3
  · refine Int.ediv_lt_of_lt_mul (by omega) ?_
    rw [← Int.pow_succ, List.length_cons, show (m - (ds.length + 1)).succ = m - ds.length from by omega]
    exact h5
theorem DigRel.done {base : Int} {m : Nat} {v : Int} {ds : List UInt8} (h : DigRel base m v 0 ds) (hne : ds ≠ []) (more : List UInt8) : numGo base m (ds ++ 59 :: more) 0 0 = some (v, ds.length) := by
  obtain ⟨h1, h2, h3, h4, h5⟩ := h
  have hl := List.length_pos_iff.2 hne
  rw [numGo_digits base m more ds 0 0 h2 (by omega) (by omega), h3, Nat.zero_add]

theorem dig_not (d : UInt8) (h : digOk 10 d.toNat = true) : d ≠ 120 ∧ d ≠ 88 := by
  constructor
  · rintro rfl; revert h; decide
  · rintro rfl; revert h; decide
theorem at_dec {v : Int} {ds : List UInt8} (h : DigRel 10 7 v 0 ds) (hne : ds ≠ []) (more : List UInt8) : atRet (38 :: 35 :: (ds ++ 59 :: more)) = .tuple #[.string (chrB v), .int .i64 ((ds.length : Int) + 3)] := by
  have hd := h.done hne more
  obtain ⟨d, l, rfl⟩ := List.exists_cons_of_ne_nil hne
  have hx := dig_not d (h.2.1 d (by simp))
  have e1 : Lib.hasPrefix (38 :: 35 :: ((d :: l) ++ 59 :: more)) [38, 35, 120] = false := by
    simp [Lib.hasPrefix, List.isPrefixOf]; exact fun e => hx.1 e.symm
  have e2 : Lib.hasPrefix (38 :: 35 :: ((d :: l) ++ 59 :: more)) [38, 35, 88] = false := by
    simp [Lib.hasPrefix, List.isPrefixOf]; exact fun e => hx.2 e.symm
  have e3 : Lib.hasPrefix (38 :: 35 :: ((d :: l) ++ 59 :: more)) [38, 35] = true := by
    simp [Lib.hasPrefix, List.isPrefixOf]
  unfold atRet atL numAt
  rw [e1, e2, e3]
  simp only [Bool.false_eq_true, if_false, if_true, List.drop_succ_cons, List.drop_zero]
  rw [hd]
  simp; omega
theorem at_hex {v : Int} {x : UInt8} {ds : List UInt8} (hx : x = 120 ∨ x = 88) (h : DigRel 16 6 v 0 ds) (hne : ds ≠ []) (more : List UInt8) : atRet (38 :: 35 :: x :: (ds ++ 59 :: more)) = .tuple #[.string (chrB v), .int .i64 ((ds.length : Int) + 4)] := by
  have hd := h.done hne more
  have e : atL (38 :: 35 :: x :: (ds ++ 59 :: more)) = numAt 16 3 6 (38 :: 35 :: x :: (ds ++ 59 :: more)) := by
    unfold atL
    rcases hx with rfl | rfl
    · rw [if_pos (by simp [Lib.hasPrefix, List.isPrefixOf])]
    · rw [if_neg (by simp [Lib.hasPrefix, List.isPrefixOf]), if_pos (by simp [Lib.hasPrefix, List.isPrefixOf])]
  unfold atRet
  rw [e]
  unfold numAt
  simp only [List.drop_succ_cons, List.drop_zero]
  rw [hd]
  simp; omega

/-- A hex digit of either case. -/
def hexI (upper : Bool) (r : Nat) : Int := if r < 10 then 48 + r else if upper then 55 + r else 87 + r
def hexS (upper : Bool) : ByteArray := if upper then ⟨#[48, 49, 50, 51, 52, 53, 54, 55, 56, 57, 65, 66, 67, 68, 69, 70]⟩ else ⟨#[48, 49, 50, 51, 52, 53, 54, 55, 56, 57, 97, 98, 99, 100, 101, 102]⟩
theorem hexI_bd (upper : Bool) (r : Nat) (h : r < 16) : 0 ≤ hexI upper r ∧ hexI upper r ≤ 255 := by
  unfold hexI; cases upper <;> simp <;> split <;> omega
theorem hex_dig : ∀ (upper : Bool) (r : Nat), r < 16 → digOk 16 (((hexI upper r).toNat.toUInt8).toNat : Int) = true ∧ digV 16 (((hexI upper r).toNat.toUInt8).toNat : Int) = r := by decide +kernel
theorem dec_dig : ∀ (r : Nat), r < 10 → digOk 10 (((48 + (r : Int)).toNat.toUInt8).toNat : Int) = true ∧ digV 10 (((48 + (r : Int)).toNat.toUInt8).toNat : Int) = r := by decide +kernel
theorem hex_index_true : ∀ (r : Nat), r < 16 → ∀ w : World, (Instr.index 9 (.string ⟨#[48, 49, 50, 51, 52, 53, 54, 55, 56, 57, 65, 66, 67, 68, 69, 70]⟩) (.int .i64 r)).run Tryd.prog w = .ok (.int .u8 (hexI true r)) w
  | 0, _, _ => by kernel_rfl
  | 1, _, _ => by kernel_rfl
  | 2, _, _ => by kernel_rfl
  | 3, _, _ => by kernel_rfl
  | 4, _, _ => by kernel_rfl
  | 5, _, _ => by kernel_rfl
  | 6, _, _ => by kernel_rfl
  | 7, _, _ => by kernel_rfl
  | 8, _, _ => by kernel_rfl
  | 9, _, _ => by kernel_rfl
  | 10, _, _ => by kernel_rfl
  | 11, _, _ => by kernel_rfl
  | 12, _, _ => by kernel_rfl
  | 13, _, _ => by kernel_rfl
  | 14, _, _ => by kernel_rfl
  | 15, _, _ => by kernel_rfl
  | n + 16, h, _ => by omega
theorem hex_index_false : ∀ (r : Nat), r < 16 → ∀ w : World, (Instr.index 9 (.string ⟨#[48, 49, 50, 51, 52, 53, 54, 55, 56, 57, 97, 98, 99, 100, 101, 102]⟩) (.int .i64 r)).run Tryd.prog w = .ok (.int .u8 (hexI false r)) w
  | 0, _, _ => by kernel_rfl
  | 1, _, _ => by kernel_rfl
  | 2, _, _ => by kernel_rfl
  | 3, _, _ => by kernel_rfl
  | 4, _, _ => by kernel_rfl
  | 5, _, _ => by kernel_rfl
  | 6, _, _ => by kernel_rfl
  | 7, _, _ => by kernel_rfl
  | 8, _, _ => by kernel_rfl
  | 9, _, _ => by kernel_rfl
  | 10, _, _ => by kernel_rfl
  | 11, _, _ => by kernel_rfl
  | 12, _, _ => by kernel_rfl
  | 13, _, _ => by kernel_rfl
  | 14, _, _ => by kernel_rfl
  | 15, _, _ => by kernel_rfl
  | n + 16, h, _ => by omega

theorem conv_byte (w : World) (v : Int) (h0 : 0 ≤ v) (h1 : v ≤ 255) :
    (convert 47 9 (.slice (some ⟨w.heap.size, 0, none⟩) 1 1)).run Tryd.prog (w.alloc (.cells #[.int .u8 v] 5)) = .ok (.string ⟨#[v.toNat.toUInt8]⟩) (w.alloc (.cells #[.int .u8 v] 5)) := by
  exact run_convert_bytes_back (w.alloc (.cells #[.int .u8 v] 5)) 47 9 5 ⟨w.heap.size, 0, none⟩ 1 [v.toNat.toUInt8] Tryd.underlying47 Tryd.underlying5 Tryd.underlying9 (fun j hj => by
    simp only [List.length_cons, List.length_nil] at hj
    obtain rfl : j = 0 := by omega
    have e : ((v.toNat.toUInt8).toNat : Int) = v := by
      rw [Nat.toUInt8_eq, UInt8.toNat_ofNat']
      omega
    show _ = some (Value.int .u8 ((v.toNat.toUInt8).toNat : Int))
    rw [e]
    simp [Addr.add])

end Go.Proofs.YtggfllbaomfjhaaDoor
