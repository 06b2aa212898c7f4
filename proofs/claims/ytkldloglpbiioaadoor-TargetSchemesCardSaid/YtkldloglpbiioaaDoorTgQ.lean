/-
  The laws of the layer target: TargetSchemes: plain facts, and its walk.
-/
import Derived.Test.YtkldloglpbiioaaDoorTgM
import Derived.Test.YtkldloglpbiioaaDoorReg
namespace Go.Proofs.YtkldloglpbiioaaDoor
open Go.RowKit
set_option linter.unusedSimpArgs false
set_option linter.unusedVariables false

/-! ### Schemes, in whichever case, with a sign that is not shown between -/
def schL : List (List UInt8) := [[106, 97, 118, 97, 115, 99, 114, 105, 112, 116, 58], [118, 98, 115, 99, 114, 105, 112, 116, 58], [102, 105, 108, 101, 58], [100, 97, 116, 97, 58], [104, 116, 116, 112, 115, 58], [109, 97, 105, 108, 116, 111, 58], [47, 102, 105, 108, 101, 58], [100, 97, 116, 117, 109, 58]]
def schT (j : Nat) : List UInt8 := schL.getD j []
def canon (b : UInt8) : UInt8 := if 65 ≤ b.toNat ∧ b.toNat ≤ 90 then b + 32 else b
theorem canon_low (b : UInt8) : (hidB (canon b).toNat == hidB b.toNat && lowI (canon b).toNat == lowI b.toNat) = true :=
  all_bytes (p := fun b => hidB (canon b).toNat == hidB b.toNat && lowI (canon b).toNat == lowI b.toNat) (by decide +kernel) b
theorem canon_same (b : UInt8) : hidB (canon b).toNat = hidB b.toNat ∧ lowI (canon b).toNat = lowI b.toNat := by
  have := canon_low b
  simpa using this
theorem canon_down : ∀ n : Nat, n < 256 → 97 ≤ n → n ≤ 122 → canon (n - 32).toUInt8 = n.toUInt8 ∧ canon n.toUInt8 = n.toUInt8 ∧ ((n - 32).toUInt8).toNat = n - 32 := by decide +kernel
theorem begL_canon : ∀ (l sc : List UInt8), begL (l.map canon) sc = begL l sc
  | _, [] => by rw [begL_end, begL_end]
  | [], _ :: _ => rfl
  | b :: l, c :: sc => by
    obtain ⟨h1, h2⟩ := canon_same b
    rw [List.map_cons, begL, begL, h1, h2, begL_canon l (c :: sc), begL_canon l sc]
theorem begL_gap {g : UInt8} (hg : hidB g.toNat = true) : ∀ (x y sc : List UInt8), begL (x ++ g :: y) sc = begL (x ++ y) sc
  | _, _, [] => by rw [begL_end, begL_end]
  | [], y, c :: sc => by rw [List.nil_append, List.nil_append, begL_hid hg]
  | b :: x, y, c :: sc => by
    rw [List.cons_append, List.cons_append, begL, begL, begL_gap hg x y (c :: sc), begL_gap hg x y sc]
theorem begL_self : ∀ (sc rest : List UInt8), (∀ b ∈ sc, hidB b.toNat = false ∧ lowI b.toNat = b.toNat) → begL (sc ++ rest) sc = true
  | [], rest, _ => begL_end _
  | c :: sc, rest, h => by
    obtain ⟨h1, h2⟩ := h c (by simp)
    rw [List.cons_append, begL_same h1 h2, begL_self sc rest (fun x hx => h x (by simp [hx]))]
theorem sch_plain : ∀ sc ∈ barredL, ∀ b ∈ sc, hidB b.toNat = false ∧ lowI b.toNat = b.toNat := by decide +kernel
theorem sch_barred : ∀ j : Nat, j < 4 → schT j ∈ barredL := by decide +kernel
theorem sch_bad (j : Nat) (hj : j < 4) (rest : List UInt8) : safeL (schT j ++ rest) = false := by
  unfold safeL
  rw [List.any_eq_true.2 ⟨schT j, sch_barred j hj, begL_self _ _ (sch_plain _ (sch_barred j hj))⟩]
  rfl
theorem sch_good : ∀ j : Nat, j < 8 → 4 ≤ j → ∀ rest : List UInt8, safeL (schT j ++ rest) = true
  | 4, _, _, _ => rfl
  | 5, _, _, _ => rfl
  | 6, _, _, _ => rfl
  | 7, _, _, _ => rfl
  | 0, _, h, _ => by omega
  | 1, _, h, _ => by omega
  | 2, _, h, _ => by omega
  | 3, _, h, _ => by omega
  | n + 8, h, _, _ => by omega
theorem sch_safe (j : Nat) (hj : j < 8) (rest : List UInt8) : safeL (schT j ++ rest) = decide (4 ≤ j) := by
  by_cases h : 4 ≤ j
  · rw [sch_good j hj h, decide_eq_true h]
  · rw [sch_bad j (by omega), decide_eq_false h]
theorem safeL_canon (l : List UInt8) : safeL (l.map canon) = safeL l := by
  unfold safeL
  simp only [begL_canon]
theorem safeL_gap {g : UInt8} (hg : hidB g.toNat = true) (x y : List UInt8) : safeL (x ++ g :: y) = safeL (x ++ y) := by
  unfold safeL
  simp only [begL_gap hg]
theorem sch_law (j : Nat) (hj : j < 8) {V : List UInt8} (hV : V.map canon = schT j) {g : UInt8} (hg : hidB g.toNat = true) (i : Nat) (rest : List UInt8) : safeL (V.take i ++ [g] ++ V.drop i ++ rest) = decide (4 ≤ j) := by
  rw [show V.take i ++ [g] ++ V.drop i ++ rest = V.take i ++ g :: (V.drop i ++ rest) from by simp, safeL_gap hg, ← List.append_assoc, List.take_append_drop, ← safeL_canon, List.map_append, hV, sch_safe j hj]
theorem sch_canon : ∀ j : Nat, j < 8 → (schT j).map canon = schT j := by decide +kernel
theorem sch_len : ∀ j : Nat, j < 8 → 1 ≤ (schT j).length ∧ (schT j).length ≤ 11 := by decide +kernel
theorem sch_get (j : Nat) (hj : j < 8) : ([Value.string ⟨#[106, 97, 118, 97, 115, 99, 114, 105, 112, 116, 58]⟩, Value.string ⟨#[118, 98, 115, 99, 114, 105, 112, 116, 58]⟩, Value.string ⟨#[102, 105, 108, 101, 58]⟩, Value.string ⟨#[100, 97, 116, 97, 58]⟩, Value.string ⟨#[104, 116, 116, 112, 115, 58]⟩, Value.string ⟨#[109, 97, 105, 108, 116, 111, 58]⟩, Value.string ⟨#[47, 102, 105, 108, 101, 58]⟩, Value.string ⟨#[100, 97, 116, 117, 109, 58]⟩] : List Value)[j]'hj = .string ⟨(schT j).toArray⟩ := by
  match j, hj with
  | 0, _ => rfl
  | 1, _ => rfl
  | 2, _ => rfl
  | 3, _ => rfl
  | 4, _ => rfl
  | 5, _ => rfl
  | 6, _ => rfl
  | 7, _ => rfl
theorem tmod8_bd (a : Int) : -8 < a.tmod 8 ∧ a.tmod 8 < 8 := by
  have h1 := Int.tmod_lt_of_pos a (show (0 : Int) < 8 by decide)
  have h2 := Int.lt_tmod_of_pos a (show (0 : Int) < 8 by decide)
  omega
theorem sch_index (a : Int) : ∃ j : Nat, j < 8 ∧ (wrap64 (a.tmod 8 + 8)).tmod 8 = (j : Int) := by
  obtain ⟨h1, h2⟩ := tmod8_bd a
  have e : wrap64 (a.tmod 8 + 8) = a.tmod 8 + 8 := by unfold wrap64; omega
  rw [e, Int.tmod_eq_emod_of_nonneg (by omega)]
  exact ⟨((a.tmod 8 + 8) % 8).toNat, by omega, by omega⟩

/-! ### Bytes in a block of the call's own -/
def BytesIn (w : World) (B : Nat) (V : List UInt8) : Prop :=
  ∃ C fr, w.heap[B]? = some (.cells C 5 fr) ∧ (∀ j (h : j < V.length), C[j]? = some (.int .u8 V[j].toNat)) ∧ ∀ j, j < V.length → ¬ (fr.1 ≤ j ∧ j < fr.2)
theorem BytesIn.cell {w : World} {B : Nat} {V : List UInt8} (h : BytesIn w B V) (j : Nat) (hj : j < V.length) : w.cell? ⟨B, j, none⟩ = some (.int .u8 V[j].toNat) := by
  obtain ⟨C, fr, hb, hc, _⟩ := h
  rw [cell_of_row w B j C 5 fr hb]
  exact hc j hj
theorem BytesIn.frozen {w : World} {B : Nat} {V : List UInt8} (h : BytesIn w B V) (j : Nat) (hj : j < V.length) : w.frozen? ⟨B, j, none⟩ = false := by
  obtain ⟨C, fr, hb, _, hf⟩ := h
  have := hf j hj
  unfold World.frozen?
  rw [hb]
  simp only [Bool.and_eq_false_iff, decide_eq_false_iff_not]
  omega
theorem BytesIn.below {w w' : World} {B : Nat} {V : List UInt8} (h : BytesIn w B V) (hb : Below w.heap.size w w') : BytesIn w' B V := by
  obtain ⟨C, fr, h1, h2⟩ := h
  exact ⟨C, fr, (hb.block B (Array.getElem?_eq_some_iff.1 h1).1).trans h1, h2⟩
theorem BytesIn.set {w : World} {B : Nat} {V : List UInt8} (h : BytesIn w B V) (k : Nat) (hk : k < V.length) (x : UInt8) : BytesIn (w.setCell ⟨B, k, none⟩ (.int .u8 x.toNat)) B (V.set k x) := by
  obtain ⟨C, fr, hb, hc, hf⟩ := h
  refine ⟨C.setIfInBounds k (.int .u8 x.toNat), fr, ?_, ?_, by simpa using hf⟩
  · simp [World.setCell, Array.getElem?_modify, hb]
  · intro j hj
    rw [List.length_set] at hj
    have hck := hc k hk
    have hks : k < C.size := (Array.getElem?_eq_some_iff.1 hck).1
    by_cases e : k = j
    · subst e
      simp [hks]
    · rw [Array.getElem?_setIfInBounds_ne e, hc j hj]
      simp [e]
theorem BytesIn.new (w : World) (s : ByteArray) (cap : Nat) : BytesIn (w.drew.alloc (.cells (bytesRow s cap) 5 ((bytesRow s cap).size, (bytesRow s cap).size + 1))) w.heap.size s.data.toList := by
  refine ⟨bytesRow s cap, _, heap_alloc_new w.drew _, fun j hj => ?_, fun j hj => ?_⟩
  · have hj2 : j < s.data.size := by simpa using hj
    unfold bytesRow
    rw [Array.getElem?_append_left (by simpa using hj2)]
    simp only [Array.getElem?_map, Array.getElem?_eq_getElem hj2, Option.map_some]
    rfl
  · have hj2 : j < s.data.size := by simpa using hj
    have : s.data.size ≤ (bytesRow s cap).size := by simp [bytesRow]
    show ¬ ((bytesRow s cap).size ≤ j ∧ _)
    omega

theorem infoU8 : Tryd.prog.elem 25 = 5 := by kernel_rfl
def dropB (B cap k : Nat) : Option Addr := if cap - k = 0 then some ⟨B, 0, none⟩ else some ⟨B, k, none⟩
theorem bytes_to (B len cap k : Nat) (h : k ≤ cap) (W : World) : (Instr.slice 25 (.slice (some ⟨B, 0, none⟩) len cap) none (some (.int .i64 (k : Int))) none).run Tryd.prog W = .ok (.slice (some ⟨B, 0, none⟩) k cap) W := by
  rw [run_slice_h W 25 (some ⟨B, 0, none⟩) len cap (by kernel_rfl) .i64 (k : Int) (by omega) (by omega)]
  rw [show Tryd.prog.elem 25 = 5 from infoU8]
  go_simp
theorem bytes_from (B len cap k : Nat) (h : k ≤ len) (hc : len ≤ cap) (W : World) : (Instr.slice 25 (.slice (some ⟨B, 0, none⟩) len cap) (some (.int .i64 (k : Int))) none none).run Tryd.prog W = .ok (.slice (dropB B cap k) (len - k) (cap - k)) W := by
  rw [run_slice_l W 25 (some ⟨B, 0, none⟩) len cap (by kernel_rfl) .i64 (k : Int) (by omega) (by omega)]
  rw [show Tryd.prog.elem 25 = 5 from infoU8]
  go_simp
  unfold dropB
  by_cases h0 : cap - k = 0
  · obtain rfl : cap = k := by omega
    simp [sliced]
  · have hne : ¬ cap = k := by omega
    simp [sliced, h0, hne, addr_add]
theorem bytes_conv1 {W : World} {B : Nat} {V : List UInt8} (h : BytesIn W B V) (k cap : Nat) (hk : k ≤ V.length) : (convert 25 9 (.slice (some ⟨B, 0, none⟩) k cap)).run Tryd.prog W = .ok (.string ⟨(V.take k).toArray⟩) W := by
  have hl : (V.take k).length = k := by rw [List.length_take]; omega
  have := run_convert_bytes_back (P := Tryd.prog) W 25 9 5 ⟨B, 0, none⟩ cap (V.take k) Tryd.underlying25 Tryd.underlying5 Tryd.underlying9 (fun j hj => by
    rw [hl] at hj
    rw [addr_add, Nat.zero_add, List.getElem_take]
    exact h.cell j (by omega))
  rw [hl] at this
  exact this
theorem bytes_conv2 {W : World} {B : Nat} {V : List UInt8} (h : BytesIn W B V) (k cap : Nat) (hk : k ≤ V.length) (hc : V.length ≤ cap) : (convert 25 9 (.slice (dropB B cap k) (V.length - k) (cap - k))).run Tryd.prog W = .ok (.string ⟨(V.drop k).toArray⟩) W := by
  have hl : (V.drop k).length = V.length - k := by rw [List.length_drop]
  unfold dropB
  by_cases h0 : cap - k = 0
  · rw [if_pos h0]
    have := run_convert_bytes_back (P := Tryd.prog) W 25 9 5 ⟨B, 0, none⟩ (cap - k) (V.drop k) Tryd.underlying25 Tryd.underlying5 Tryd.underlying9 (fun j hj => by
      rw [hl] at hj
      omega)
    rw [hl] at this
    exact this
  · rw [if_neg h0]
    have := run_convert_bytes_back (P := Tryd.prog) W 25 9 5 ⟨B, k, none⟩ (cap - k) (V.drop k) Tryd.underlying25 Tryd.underlying5 Tryd.underlying9 (fun j hj => by
      rw [hl] at hj
      rw [addr_add, List.getElem_drop]
      exact h.cell (k + j) (by omega))
    rw [hl] at this
    exact this
theorem at_index (a : Int) (n : Nat) (hn : n ≤ 11) : ∃ i : Nat, i ≤ n ∧ (wrap64 (wrap64 (a.tmod ((n : Int) + 1) + (n : Int)) + 1)).tmod ((n : Int) + 1) = (i : Int) := by
  have h1 := Int.tmod_lt_of_pos a (show (0 : Int) < (n : Int) + 1 by omega)
  have h2 := Int.lt_tmod_of_pos a (show (0 : Int) < (n : Int) + 1 by omega)
  generalize a.tmod ((n : Int) + 1) = m at *
  have e1 : wrap64 (m + (n : Int)) = m + (n : Int) := by unfold wrap64; omega
  have e2 : wrap64 (m + (n : Int) + 1) = m + (n : Int) + 1 := by unfold wrap64; omega
  rw [e1, e2]
  have h3 := Int.tmod_lt_of_pos (m + (n : Int) + 1) (show (0 : Int) < (n : Int) + 1 by omega)
  have h4 := Int.tmod_nonneg ((n : Int) + 1) (show 0 ≤ m + (n : Int) + 1 by omega)
  exact ⟨((m + (n : Int) + 1).tmod ((n : Int) + 1)).toNat, by omega, by omega⟩
def SchRel (S : List UInt8) (B : Nat) (w : World) (i : Value) (wr : World) : Prop :=
  ∃ (k : Nat) (V : List UInt8), i = .int .i64 k ∧ k ≤ S.length ∧ V.length = S.length ∧ V.map canon = S ∧ BytesIn wr B V ∧ Below w.heap.size w wr

set_option maxHeartbeats 4000000 in
set_option maxRecDepth 100000 in
theorem targetSchemes_in (w : World) (hn : TenIs w) (a0 : Int) (A1 : Option Addr) (c1 : Nat) (z1 : List Bool) (r1 : RowOf w A1 c1 (z1.map Value.bool)) (a2 : Int) (a3 : Int) (a4 : ByteArray)
    (k0 : -9223372036854775808 ≤ a0 ∧ a0 ≤ 9223372036854775807) (k2 : -9223372036854775808 ≤ a2 ∧ a2 ≤ 9223372036854775807) (g0 : 0 ≤ a3) (g1 : a3 ≤ 32) (h4 : a4.size ≤ 60) :
    Calls Tryd.prog 3 #[.int .i64 a0, .slice A1 z1.length c1, .int .i64 a2, .int .u8 a3, .string a4] w fun e w' => e = .returned (.bool true) ∧ Below w.heap.size w w' := by
  have ca := alive10_any w hn
  have GH := Lib.hid (show hidB (a3.toNat.toUInt8).toNat = true from by
    have : (a3.toNat.toUInt8).toNat = a3.toNat := by simp; omega
    rw [this]
    simp [hidB]
    omega)
  obtain ⟨j, hj, hx⟩ := sch_index a0
  have hget := sch_get j hj
  have hjl : (j : Int) < 8 := by omega
  have hsl := sch_len j hj
  have HCan := Lib.hid (show (schT j).map canon = schT j from sch_canon j hj)
  have HLaw := Lib.hid (fun V hV g hg i rest => sch_law j hj (V := V) hV (g := g) hg i rest)
  have HE := Lib.hid (show (⟨(schT j).toArray⟩ : ByteArray).data.toList = schT j from rfl)
  have hz : (⟨(schT j).toArray⟩ : ByteArray).size = (schT j).length := str_size _
  have HN := Lib.hid hn
  have HR := Lib.hid r1
  clear hn r1
  generalize schT j = S at *
  generalize (⟨S.toArray⟩ : ByteArray) = s at *
  go_enter Tryd.func3, Tryd.ntmps3
  go_wp2_with fail
  refine ca.mono ?_
  rintro e' w1 ⟨rfl, b1⟩
  have hconv : ∃ cap W2, (convert 9 25 (.string s)).run Tryd.prog (w1.alloc (.cells #[.string ⟨#[106, 97, 118, 97, 115, 99, 114, 105, 112, 116, 58]⟩, .string ⟨#[118, 98, 115, 99, 114, 105, 112, 116, 58]⟩, .string ⟨#[102, 105, 108, 101, 58]⟩, .string ⟨#[100, 97, 116, 97, 58]⟩, .string ⟨#[104, 116, 116, 112, 115, 58]⟩, .string ⟨#[109, 97, 105, 108, 116, 111, 58]⟩, .string ⟨#[47, 102, 105, 108, 101, 58]⟩, .string ⟨#[100, 97, 116, 117, 109, 58]⟩] 9)) = .ok (.slice (some ⟨w1.heap.size + 1, 0, none⟩) s.size cap) W2 ∧ BytesIn W2 (w1.heap.size + 1) s.data.toList ∧ Below w.heap.size w W2 ∧ s.size ≤ cap ∧ cap ≤ maxLen := by
    have h := run_bytes_of_string (P := Tryd.prog) (w1.alloc (.cells #[.string ⟨#[106, 97, 118, 97, 115, 99, 114, 105, 112, 116, 58]⟩, .string ⟨#[118, 98, 115, 99, 114, 105, 112, 116, 58]⟩, .string ⟨#[102, 105, 108, 101, 58]⟩, .string ⟨#[100, 97, 116, 97, 58]⟩, .string ⟨#[104, 116, 116, 112, 115, 58]⟩, .string ⟨#[109, 97, 105, 108, 116, 111, 58]⟩, .string ⟨#[47, 102, 105, 108, 101, 58]⟩, .string ⟨#[100, 97, 116, 117, 109, 58]⟩] 9)) 9 25 5 s Tryd.underlying9 Tryd.underlying25 Tryd.underlying5
    rw [alloc_size] at h
    refine ⟨_, _, h, ?_, ?_, grownCap_ge _ _ _ _, grownCap_le_maxLen _ _ _ _ (by unfold maxLen; omega)⟩
    · have := BytesIn.new (w1.alloc (.cells #[.string ⟨#[106, 97, 118, 97, 115, 99, 114, 105, 112, 116, 58]⟩, .string ⟨#[118, 98, 115, 99, 114, 105, 112, 116, 58]⟩, .string ⟨#[102, 105, 108, 101, 58]⟩, .string ⟨#[100, 97, 116, 97, 58]⟩, .string ⟨#[104, 116, 116, 112, 115, 58]⟩, .string ⟨#[109, 97, 105, 108, 116, 111, 58]⟩, .string ⟨#[47, 102, 105, 108, 101, 58]⟩, .string ⟨#[100, 97, 116, 117, 109, 58]⟩] 9)) s (grownCap (w1.alloc (.cells #[.string ⟨#[106, 97, 118, 97, 115, 99, 114, 105, 112, 116, 58]⟩, .string ⟨#[118, 98, 115, 99, 114, 105, 112, 116, 58]⟩, .string ⟨#[102, 105, 108, 101, 58]⟩, .string ⟨#[100, 97, 116, 97, 58]⟩, .string ⟨#[104, 116, 116, 112, 115, 58]⟩, .string ⟨#[109, 97, 105, 108, 116, 111, 58]⟩, .string ⟨#[47, 102, 105, 108, 101, 58]⟩, .string ⟨#[100, 97, 116, 117, 109, 58]⟩] 9)) s.size 0 5)
      rw [alloc_size] at this
      exact this
    · have h1 := b1.alloc b1.size (.cells #[.string ⟨#[106, 97, 118, 97, 115, 99, 114, 105, 112, 116, 58]⟩, .string ⟨#[118, 98, 115, 99, 114, 105, 112, 116, 58]⟩, .string ⟨#[102, 105, 108, 101, 58]⟩, .string ⟨#[100, 97, 116, 97, 58]⟩, .string ⟨#[104, 116, 116, 112, 115, 58]⟩, .string ⟨#[109, 97, 105, 108, 116, 111, 58]⟩, .string ⟨#[47, 102, 105, 108, 101, 58]⟩, .string ⟨#[100, 97, 116, 117, 109, 58]⟩] 9)
      exact (below_drewN' h1 1).alloc h1.size _
  obtain ⟨cap, W2, hcv, hBI, hbw2, hc1, hc2⟩ := hconv
  unfold maxLen at hc2
  have hB0 : w.heap.size ≤ w1.heap.size + 1 := by have := b1.size; omega
  rw [HE.out] at hBI
  have HBI := Lib.hid hBI
  clear hBI
  go_wp2_with fail
  clear hcv
  go_loopw [43] (fun i wr => SchRel S (w1.heap.size + 1) w i wr) (fun i _ => s.size - (intOf i).toNat)
  case atStart => exact ⟨0, S, rfl, Nat.zero_le _, rfl, HCan.out, HBI.out, hbw2⟩
  case round =>
    obtain ⟨k, V, rfl, hk, hVl, hV, hBI, hbw⟩ := hrel
    have HV := Lib.hid hV
    clear HBI
    by_cases hp : k < s.size
    · have hkV : k < V.length := by omega
      have hcell := hBI.cell k hkV
      have hfr := hBI.frozen k hkV
      have HBI := Lib.hid hBI
      clear hBI hV
      by_cases hu : k < z1.length
      · have hr := HR.out.below hbw
        obtain ⟨gb, off, hA, hgb, hcs⟩ := hr.at (by intro e; have := congrArg List.length e; simp at this; rw [this] at hu; simp at hu)
        have hbc := hcs k (by simpa using hu)
        rw [List.getElem_map] at hbc
        subst hA
        clear hr hcs
        cases hzb : z1[k] with
        | false =>
          rw [hzb] at hbc
          clear hzb
          go_wp2
          go_roundw
          case rel => exact ⟨k + 1, V, by go_num, by omega, hVl, HV.out, HBI.out, hbw⟩
          case measure => simp [intOf]; omega
        | true =>
          rw [hzb] at hbc
          clear hzb
          by_cases hlet : 97 ≤ V[k].toNat ∧ V[k].toNat ≤ 122
          · obtain ⟨hl1, hl2⟩ := hlet
            obtain ⟨d1, d2, d3⟩ := canon_down V[k].toNat (V[k].toNat_lt) hl1 hl2
            rw [show V[k].toNat.toUInt8 = V[k] from by simp] at d1 d2
            have HV2 := Lib.hid (show (V.set k (V[k].toNat - 32).toUInt8).map canon = S from by
              rw [List.map_set, d1]
              have : V[k] = (V.map canon)[k]'(by rw [List.length_map]; exact hkV) := by rw [List.getElem_map, d2]
              rw [this, List.set_getElem_self, HV.out])
            have HB2 := Lib.hid (HBI.out.set k hkV (V[k].toNat - 32).toUInt8)
            have hxe : (((V[k].toNat - 32).toUInt8).toNat : Int) = (V[k].toNat : Int) - 32 := by rw [d3]; omega
            rw [hxe] at HB2
            clear d1 d2 d3 hxe
            generalize (V[k].toNat - 32).toUInt8 = x at *
            generalize V[k] = c at *
            go_wp2
            go_roundw
            case rel => exact ⟨k + 1, V.set k x, by go_num, by omega, by rw [List.length_set]; exact hVl, HV2.out, HB2.out, hbw.setCell hB0 _⟩
            case measure => simp [intOf]; omega
          · have hcase : V[k].toNat < 97 ∨ 97 ≤ V[k].toNat ∧ 122 < V[k].toNat := by omega
            clear hlet
            generalize V[k] = c at *
            rcases hcase with hl | ⟨hl, hl2⟩
            all_goals
              go_wp2
              go_roundw
              case rel => exact ⟨k + 1, V, by go_num, by omega, hVl, HV.out, HBI.out, hbw⟩
              case measure => simp [intOf]; omega
      · generalize V[k] = c at *
        go_wp2
        go_roundw
        case rel => exact ⟨k + 1, V, by go_num, by omega, hVl, HV.out, HBI.out, hbw⟩
        case measure => simp [intOf]; omega
    · obtain rfl : k = s.size := by omega
      have HBI := Lib.hid hBI
      clear hBI hV
      obtain ⟨i, hi, hxi⟩ := at_index a2 S.length (by omega)
      go_wp2_with fail
      have HS := Lib.hid (show BytesIn wr.drew (w1.heap.size + 1) V ∧ Below w.heap.size w wr.drew from ⟨HBI.out, hbw.drew⟩)
      have hs1 := bytes_to (w1.heap.size + 1) S.length cap i (by omega)
      have hs2 := bytes_from (w1.heap.size + 1) S.length cap i (by omega) (by omega)
      have CV1 := Lib.hid (fun W (hW : BytesIn W (w1.heap.size + 1) V) => bytes_conv1 hW i cap (by omega))
      have CV2 := Lib.hid (fun W (hW : BytesIn W (w1.heap.size + 1) V) => bytes_conv2 hW i cap (by omega) (by omega))
      rw [hVl] at CV2
      refine wp_region_N (fun W => BytesIn W (w1.heap.size + 1) V ∧ Below w.heap.size w W) (fun n => decide (n < 14)) (by kernel_rfl) ?_
      clear hbw
      generalize wr.drew = wd at *
      refine wpAnyN_take_at 0 90 (v := ?_) rfl rfl (by kernel_rfl) (by kernel_rfl) (by kernel_rfl) (by kernel_rfl) (by kernel_rfl) (fun _ _ _ h => h) (by rfl) ?_ HS.out ?_
      rotate_left
      · intro W hSw; (try dsimp only at hSw); go_simp; (try with_reducible rfl)
      simp only [Act.put, List.setIfInBounds_toArray, List.set_cons_zero, List.set_cons_succ]
      refine wpAnyN_take_at 1 91 (v := ?_) rfl rfl (by kernel_rfl) (by kernel_rfl) (by kernel_rfl) (by kernel_rfl) (by kernel_rfl) (fun _ _ _ h => h) (by rfl) ?_ HS.out ?_
      rotate_left
      · intro W hSw; (try dsimp only at hSw); go_simp; (try with_reducible rfl)
      simp only [Act.put, List.setIfInBounds_toArray, List.set_cons_zero, List.set_cons_succ]
      refine wpAnyN_take_at 2 92 (v := ?_) rfl rfl (by kernel_rfl) (by kernel_rfl) (by kernel_rfl) (by kernel_rfl) (by kernel_rfl) (fun _ _ _ h => h) (by rfl) ?_ HS.out ?_
      rotate_left
      · intro W hSw; (try dsimp only at hSw); go_simp; (try with_reducible rfl)
      simp only [Act.put, List.setIfInBounds_toArray, List.set_cons_zero, List.set_cons_succ]
      refine wpAnyN_take_at 3 93 (v := ?_) rfl rfl (by kernel_rfl) (by kernel_rfl) (by kernel_rfl) (by kernel_rfl) (by kernel_rfl) (fun _ _ _ h => h) (by rfl) ?_ HS.out ?_
      rotate_left
      · intro W hSw; (try dsimp only at hSw); have q1 := CV1.out W hSw.1; go_simp; (try with_reducible rfl)
      simp only [Act.put, List.setIfInBounds_toArray, List.set_cons_zero, List.set_cons_succ]
      refine wpAnyN_take_at 4 94 (v := ?_) rfl rfl (by kernel_rfl) (by kernel_rfl) (by kernel_rfl) (by kernel_rfl) (by kernel_rfl) (fun _ _ _ h => h) (by rfl) ?_ HS.out ?_
      rotate_left
      · intro W hSw; (try dsimp only at hSw); go_simp; (try with_reducible rfl)
      simp only [Act.put, List.setIfInBounds_toArray, List.set_cons_zero, List.set_cons_succ]
      refine wpAnyN_take_at 8 98 (v := ?_) rfl rfl (by kernel_rfl) (by kernel_rfl) (by kernel_rfl) (by kernel_rfl) (by kernel_rfl) (fun _ _ _ h => h) (by rfl) ?_ HS.out ?_
      rotate_left
      · intro W hSw; (try dsimp only at hSw); go_simp; (try with_reducible rfl)
      simp only [Act.put, List.setIfInBounds_toArray, List.set_cons_zero, List.set_cons_succ]
      refine wpAnyN_take_at 9 99 (v := ?_) rfl rfl (by kernel_rfl) (by kernel_rfl) (by kernel_rfl) (by kernel_rfl) (by kernel_rfl) (fun _ _ _ h => h) (by rfl) ?_ HS.out ?_
      rotate_left
      · intro W hSw; (try dsimp only at hSw); go_simp; (try with_reducible rfl)
      simp only [Act.put, List.setIfInBounds_toArray, List.set_cons_zero, List.set_cons_succ]
      refine wpAnyN_take_at 10 100 (v := ?_) rfl rfl (by kernel_rfl) (by kernel_rfl) (by kernel_rfl) (by kernel_rfl) (by kernel_rfl) (fun _ _ _ h => h) (by rfl) ?_ HS.out ?_
      rotate_left
      · intro W hSw; (try dsimp only at hSw); go_simp; (try with_reducible rfl)
      simp only [Act.put, List.setIfInBounds_toArray, List.set_cons_zero, List.set_cons_succ]
      refine wpAnyN_take_at 11 101 (v := ?_) rfl rfl (by kernel_rfl) (by kernel_rfl) (by kernel_rfl) (by kernel_rfl) (by kernel_rfl) (fun _ _ _ h => h) (by rfl) ?_ HS.out ?_
      rotate_left
      · intro W hSw; (try dsimp only at hSw); have q1 := CV2.out W hSw.1; go_simp; (try with_reducible rfl)
      simp only [Act.put, List.setIfInBounds_toArray, List.set_cons_zero, List.set_cons_succ]
      refine wpAnyN_take_at 13 103 (v := ?_) rfl rfl (by kernel_rfl) (by kernel_rfl) (by kernel_rfl) (by kernel_rfl) (by kernel_rfl) (fun _ _ _ h => h) (by rfl) ?_ HS.out ?_
      rotate_left
      · intro W hSw; (try dsimp only at hSw); go_simp; (try with_reducible rfl)
      simp only [Act.put, List.setIfInBounds_toArray, List.set_cons_zero, List.set_cons_succ]
      clear hs1 hs2 CV1 CV2
      have hcg := conv_byte wd a3 g0 (by omega)
      have HLw := Lib.hid (HLaw.out V HV.out a3.toNat.toUInt8 GH.out i a4.data.toList)
      have hX1 : (⟨(V.take i).toArray⟩ : ByteArray).size ≤ 11 := by rw [str_size, List.length_take]; omega
      have hX2 : (⟨(V.drop i).toArray⟩ : ByteArray).size ≤ 11 := by rw [str_size, List.length_drop]; omega
      have EX1 := Lib.hid (show (⟨(V.take i).toArray⟩ : ByteArray).data.toList = V.take i from rfl)
      have EX2 := Lib.hid (show (⟨(V.drop i).toArray⟩ : ByteArray).data.toList = V.drop i from rfl)
      generalize (⟨(V.take i).toArray⟩ : ByteArray) = X1 at *
      generalize (⟨(V.drop i).toArray⟩ : ByteArray) = X2 at *
      have hbA := Lib.hid (show BytesIn (wd.alloc (.cells #[.int .u8 a3] 5)) (w1.heap.size + 1) V ∧ Below w.heap.size w (wd.alloc (.cells #[.int .u8 a3] 5)) from ⟨HS.out.1.below ((Below.refl _ wd).alloc (Nat.le_refl _) _), HS.out.2.alloc HS.out.2.size _⟩)
      have y1 : (X1 ++ (⟨#[a3.toNat.toUInt8]⟩ : ByteArray)).size ≤ 12 := by rw [ByteArray.size_append]; show _ + 1 ≤ _; omega
      have y2 : (X1 ++ (⟨#[a3.toNat.toUInt8]⟩ : ByteArray) ++ X2).size ≤ 23 := by rw [ByteArray.size_append]; omega
      have y3 : (X1 ++ (⟨#[a3.toNat.toUInt8]⟩ : ByteArray) ++ X2 ++ a4).size ≤ 100 := by rw [ByteArray.size_append]; omega
      have s1 := fun W => run_string_add_sum (P := Tryd.prog) W X1 (⟨#[a3.toNat.toUInt8]⟩ : ByteArray) (by show _ + 1 ≤ _; omega)
      have s2 := fun W => run_string_add_sum (P := Tryd.prog) W (X1 ++ (⟨#[a3.toNat.toUInt8]⟩ : ByteArray)) X2 (by omega)
      have s3 := fun W => run_string_add_sum (P := Tryd.prog) W (X1 ++ (⟨#[a3.toNat.toUInt8]⟩ : ByteArray) ++ X2) a4 (by omega)
      have cs := fun W hn => safe_any (X1 ++ (⟨#[a3.toNat.toUInt8]⟩ : ByteArray) ++ X2 ++ a4) W hn (by omega)
      rw [show (X1 ++ (⟨#[a3.toNat.toUInt8]⟩ : ByteArray) ++ X2 ++ a4).data.toList = V.take i ++ [a3.toNat.toUInt8] ++ V.drop i ++ a4.data.toList from by simp [EX1.out, EX2.out], HLw.out] at cs
      refine wpAnyN_one (i := 5) rfl (by kernel_rfl) (fun K hK => ?_)
      go_simp
      refine hK _ _ (fun _ => hbA.out) ?_
      clear hK
      (try simp only [Act.put, List.setIfInBounds_toArray, List.set_cons_zero, List.set_cons_succ])
      refine wpAnyN_one (i := 6) rfl (by kernel_rfl) (fun K hK => ?_)
      go_simp
      refine hK _ _ (fun _ => hbA.out) ?_
      clear hK
      (try simp only [Act.put, List.setIfInBounds_toArray, List.set_cons_zero, List.set_cons_succ])
      refine wpAnyN_one (i := 7) rfl (by kernel_rfl) (fun K hK => ?_)
      go_simp
      refine hK _ _ (fun _ => hbA.out) ?_
      clear hK
      (try simp only [Act.put, List.setIfInBounds_toArray, List.set_cons_zero, List.set_cons_succ])
      refine wpAnyN_one (i := 12) rfl (by kernel_rfl) (fun K hK => ?_)
      go_simp
      refine hK _ _ (fun _ => hbA.out) ?_
      clear hK
      (try simp only [Act.put, List.setIfInBounds_toArray, List.set_cons_zero, List.set_cons_succ])
      have hszA : (wd.alloc (.cells #[.int .u8 a3] 5)).heap.size = wd.heap.size + 1 := alloc_size _ _
      have hBar := Lib.hid (HN.out.below hbA.out.2).2
      have HBW := Lib.hid hbA.out.2
      clear hcg hszA
      generalize wd.alloc (.cells #[.int .u8 a3] 5) = we at *
      refine wpAnyN_rest 14 [_, _] rfl (by kernel_rfl) (by kernel_rfl) ?_
      generalize (⟨#[a3.toNat.toUInt8]⟩ : ByteArray) = G at *
      by_cases h4j : 4 ≤ j
      · rw [decide_eq_true h4j] at cs
        have CS := Lib.hid cs
        have h4i : (4 : Int) ≤ (j : Int) := by omega
        clear cs
        go_wp2_with fail
        refine (CS.out _ hBar.out).mono ?_
        rintro e' w5 ⟨rfl, b5⟩
        go_wp2
        go_ret
        exact ⟨rfl, HBW.out.then b5⟩
      · rw [decide_eq_false h4j] at cs
        have CS := Lib.hid cs
        have h4i : ¬ (4 : Int) ≤ (j : Int) := by omega
        clear cs
        go_wp2_with fail
        refine (CS.out _ hBar.out).mono ?_
        rintro e' w5 ⟨rfl, b5⟩
        go_wp2
        go_ret
        exact ⟨ret_bool (by simp; omega), HBW.out.then b5⟩

set_option maxHeartbeats 4000000 in
set_option maxRecDepth 100000 in
theorem targetSchemes_del (w : World) (hn : TenIs w) (a0 : Int) (A1 : Option Addr) (c1 : Nat) (z1 : List Bool) (r1 : RowOf w A1 c1 (z1.map Value.bool)) (a2 : Int) (a3 : Int) (a4 : ByteArray)
    (k0 : -9223372036854775808 ≤ a0 ∧ a0 ≤ 9223372036854775807) (k2 : -9223372036854775808 ≤ a2 ∧ a2 ≤ 9223372036854775807) (g0 : 0 ≤ a3) (g1 : a3 = 127) (h4 : a4.size ≤ 60) :
    Calls Tryd.prog 3 #[.int .i64 a0, .slice A1 z1.length c1, .int .i64 a2, .int .u8 a3, .string a4] w fun e w' => e = .returned (.bool true) ∧ Below w.heap.size w w' := by
  have ca := alive10_any w hn
  have GH := Lib.hid (show hidB (a3.toNat.toUInt8).toNat = true from by
    have : (a3.toNat.toUInt8).toNat = a3.toNat := by simp; omega
    rw [this]
    simp [hidB]
    omega)
  have ga : (32 : Int) < a3 := by omega
  have gb : (a3 != 127) = false := by simp [g1]
  have gc : a3 ≤ 255 := by omega
  clear g1
  obtain ⟨j, hj, hx⟩ := sch_index a0
  have hget := sch_get j hj
  have hjl : (j : Int) < 8 := by omega
  have hsl := sch_len j hj
  have HCan := Lib.hid (show (schT j).map canon = schT j from sch_canon j hj)
  have HLaw := Lib.hid (fun V hV g hg i rest => sch_law j hj (V := V) hV (g := g) hg i rest)
  have HE := Lib.hid (show (⟨(schT j).toArray⟩ : ByteArray).data.toList = schT j from rfl)
  have hz : (⟨(schT j).toArray⟩ : ByteArray).size = (schT j).length := str_size _
  have HN := Lib.hid hn
  have HR := Lib.hid r1
  clear hn r1
  generalize schT j = S at *
  generalize (⟨S.toArray⟩ : ByteArray) = s at *
  go_enter Tryd.func3, Tryd.ntmps3
  go_wp2_with fail
  refine ca.mono ?_
  rintro e' w1 ⟨rfl, b1⟩
  have hconv : ∃ cap W2, (convert 9 25 (.string s)).run Tryd.prog (w1.alloc (.cells #[.string ⟨#[106, 97, 118, 97, 115, 99, 114, 105, 112, 116, 58]⟩, .string ⟨#[118, 98, 115, 99, 114, 105, 112, 116, 58]⟩, .string ⟨#[102, 105, 108, 101, 58]⟩, .string ⟨#[100, 97, 116, 97, 58]⟩, .string ⟨#[104, 116, 116, 112, 115, 58]⟩, .string ⟨#[109, 97, 105, 108, 116, 111, 58]⟩, .string ⟨#[47, 102, 105, 108, 101, 58]⟩, .string ⟨#[100, 97, 116, 117, 109, 58]⟩] 9)) = .ok (.slice (some ⟨w1.heap.size + 1, 0, none⟩) s.size cap) W2 ∧ BytesIn W2 (w1.heap.size + 1) s.data.toList ∧ Below w.heap.size w W2 ∧ s.size ≤ cap ∧ cap ≤ maxLen := by
    have h := run_bytes_of_string (P := Tryd.prog) (w1.alloc (.cells #[.string ⟨#[106, 97, 118, 97, 115, 99, 114, 105, 112, 116, 58]⟩, .string ⟨#[118, 98, 115, 99, 114, 105, 112, 116, 58]⟩, .string ⟨#[102, 105, 108, 101, 58]⟩, .string ⟨#[100, 97, 116, 97, 58]⟩, .string ⟨#[104, 116, 116, 112, 115, 58]⟩, .string ⟨#[109, 97, 105, 108, 116, 111, 58]⟩, .string ⟨#[47, 102, 105, 108, 101, 58]⟩, .string ⟨#[100, 97, 116, 117, 109, 58]⟩] 9)) 9 25 5 s Tryd.underlying9 Tryd.underlying25 Tryd.underlying5
    rw [alloc_size] at h
    refine ⟨_, _, h, ?_, ?_, grownCap_ge _ _ _ _, grownCap_le_maxLen _ _ _ _ (by unfold maxLen; omega)⟩
    · have := BytesIn.new (w1.alloc (.cells #[.string ⟨#[106, 97, 118, 97, 115, 99, 114, 105, 112, 116, 58]⟩, .string ⟨#[118, 98, 115, 99, 114, 105, 112, 116, 58]⟩, .string ⟨#[102, 105, 108, 101, 58]⟩, .string ⟨#[100, 97, 116, 97, 58]⟩, .string ⟨#[104, 116, 116, 112, 115, 58]⟩, .string ⟨#[109, 97, 105, 108, 116, 111, 58]⟩, .string ⟨#[47, 102, 105, 108, 101, 58]⟩, .string ⟨#[100, 97, 116, 117, 109, 58]⟩] 9)) s (grownCap (w1.alloc (.cells #[.string ⟨#[106, 97, 118, 97, 115, 99, 114, 105, 112, 116, 58]⟩, .string ⟨#[118, 98, 115, 99, 114, 105, 112, 116, 58]⟩, .string ⟨#[102, 105, 108, 101, 58]⟩, .string ⟨#[100, 97, 116, 97, 58]⟩, .string ⟨#[104, 116, 116, 112, 115, 58]⟩, .string ⟨#[109, 97, 105, 108, 116, 111, 58]⟩, .string ⟨#[47, 102, 105, 108, 101, 58]⟩, .string ⟨#[100, 97, 116, 117, 109, 58]⟩] 9)) s.size 0 5)
      rw [alloc_size] at this
      exact this
    · have h1 := b1.alloc b1.size (.cells #[.string ⟨#[106, 97, 118, 97, 115, 99, 114, 105, 112, 116, 58]⟩, .string ⟨#[118, 98, 115, 99, 114, 105, 112, 116, 58]⟩, .string ⟨#[102, 105, 108, 101, 58]⟩, .string ⟨#[100, 97, 116, 97, 58]⟩, .string ⟨#[104, 116, 116, 112, 115, 58]⟩, .string ⟨#[109, 97, 105, 108, 116, 111, 58]⟩, .string ⟨#[47, 102, 105, 108, 101, 58]⟩, .string ⟨#[100, 97, 116, 117, 109, 58]⟩] 9)
      exact (below_drewN' h1 1).alloc h1.size _
  obtain ⟨cap, W2, hcv, hBI, hbw2, hc1, hc2⟩ := hconv
  unfold maxLen at hc2
  have hB0 : w.heap.size ≤ w1.heap.size + 1 := by have := b1.size; omega
  rw [HE.out] at hBI
  have HBI := Lib.hid hBI
  clear hBI
  go_wp2_with fail
  clear hcv
  go_loopw [43] (fun i wr => SchRel S (w1.heap.size + 1) w i wr) (fun i _ => s.size - (intOf i).toNat)
  case atStart => exact ⟨0, S, rfl, Nat.zero_le _, rfl, HCan.out, HBI.out, hbw2⟩
  case round =>
    obtain ⟨k, V, rfl, hk, hVl, hV, hBI, hbw⟩ := hrel
    have HV := Lib.hid hV
    clear HBI
    by_cases hp : k < s.size
    · have hkV : k < V.length := by omega
      have hcell := hBI.cell k hkV
      have hfr := hBI.frozen k hkV
      have HBI := Lib.hid hBI
      clear hBI hV
      by_cases hu : k < z1.length
      · have hr := HR.out.below hbw
        obtain ⟨gb, off, hA, hgb, hcs⟩ := hr.at (by intro e; have := congrArg List.length e; simp at this; rw [this] at hu; simp at hu)
        have hbc := hcs k (by simpa using hu)
        rw [List.getElem_map] at hbc
        subst hA
        clear hr hcs
        cases hzb : z1[k] with
        | false =>
          rw [hzb] at hbc
          clear hzb
          go_wp2
          go_roundw
          case rel => exact ⟨k + 1, V, by go_num, by omega, hVl, HV.out, HBI.out, hbw⟩
          case measure => simp [intOf]; omega
        | true =>
          rw [hzb] at hbc
          clear hzb
          by_cases hlet : 97 ≤ V[k].toNat ∧ V[k].toNat ≤ 122
          · obtain ⟨hl1, hl2⟩ := hlet
            obtain ⟨d1, d2, d3⟩ := canon_down V[k].toNat (V[k].toNat_lt) hl1 hl2
            rw [show V[k].toNat.toUInt8 = V[k] from by simp] at d1 d2
            have HV2 := Lib.hid (show (V.set k (V[k].toNat - 32).toUInt8).map canon = S from by
              rw [List.map_set, d1]
              have : V[k] = (V.map canon)[k]'(by rw [List.length_map]; exact hkV) := by rw [List.getElem_map, d2]
              rw [this, List.set_getElem_self, HV.out])
            have HB2 := Lib.hid (HBI.out.set k hkV (V[k].toNat - 32).toUInt8)
            have hxe : (((V[k].toNat - 32).toUInt8).toNat : Int) = (V[k].toNat : Int) - 32 := by rw [d3]; omega
            rw [hxe] at HB2
            clear d1 d2 d3 hxe
            generalize (V[k].toNat - 32).toUInt8 = x at *
            generalize V[k] = c at *
            go_wp2
            go_roundw
            case rel => exact ⟨k + 1, V.set k x, by go_num, by omega, by rw [List.length_set]; exact hVl, HV2.out, HB2.out, hbw.setCell hB0 _⟩
            case measure => simp [intOf]; omega
          · have hcase : V[k].toNat < 97 ∨ 97 ≤ V[k].toNat ∧ 122 < V[k].toNat := by omega
            clear hlet
            generalize V[k] = c at *
            rcases hcase with hl | ⟨hl, hl2⟩
            all_goals
              go_wp2
              go_roundw
              case rel => exact ⟨k + 1, V, by go_num, by omega, hVl, HV.out, HBI.out, hbw⟩
              case measure => simp [intOf]; omega
      · generalize V[k] = c at *
        go_wp2
        go_roundw
        case rel => exact ⟨k + 1, V, by go_num, by omega, hVl, HV.out, HBI.out, hbw⟩
        case measure => simp [intOf]; omega
    · obtain rfl : k = s.size := by omega
      have HBI := Lib.hid hBI
      clear hBI hV
      obtain ⟨i, hi, hxi⟩ := at_index a2 S.length (by omega)
      go_wp2_with fail
      have HS := Lib.hid (show BytesIn wr.drew (w1.heap.size + 1) V ∧ Below w.heap.size w wr.drew from ⟨HBI.out, hbw.drew⟩)
      have hs1 := bytes_to (w1.heap.size + 1) S.length cap i (by omega)
      have hs2 := bytes_from (w1.heap.size + 1) S.length cap i (by omega) (by omega)
      have CV1 := Lib.hid (fun W (hW : BytesIn W (w1.heap.size + 1) V) => bytes_conv1 hW i cap (by omega))
      have CV2 := Lib.hid (fun W (hW : BytesIn W (w1.heap.size + 1) V) => bytes_conv2 hW i cap (by omega) (by omega))
      rw [hVl] at CV2
      refine wp_region_N (fun W => BytesIn W (w1.heap.size + 1) V ∧ Below w.heap.size w W) (fun n => decide (n < 14)) (by kernel_rfl) ?_
      clear hbw
      generalize wr.drew = wd at *
      refine wpAnyN_take_at 0 90 (v := ?_) rfl rfl (by kernel_rfl) (by kernel_rfl) (by kernel_rfl) (by kernel_rfl) (by kernel_rfl) (fun _ _ _ h => h) (by rfl) ?_ HS.out ?_
      rotate_left
      · intro W hSw; (try dsimp only at hSw); go_simp; (try with_reducible rfl)
      simp only [Act.put, List.setIfInBounds_toArray, List.set_cons_zero, List.set_cons_succ]
      refine wpAnyN_take_at 1 91 (v := ?_) rfl rfl (by kernel_rfl) (by kernel_rfl) (by kernel_rfl) (by kernel_rfl) (by kernel_rfl) (fun _ _ _ h => h) (by rfl) ?_ HS.out ?_
      rotate_left
      · intro W hSw; (try dsimp only at hSw); go_simp; (try with_reducible rfl)
      simp only [Act.put, List.setIfInBounds_toArray, List.set_cons_zero, List.set_cons_succ]
      refine wpAnyN_take_at 2 92 (v := ?_) rfl rfl (by kernel_rfl) (by kernel_rfl) (by kernel_rfl) (by kernel_rfl) (by kernel_rfl) (fun _ _ _ h => h) (by rfl) ?_ HS.out ?_
      rotate_left
      · intro W hSw; (try dsimp only at hSw); go_simp; (try with_reducible rfl)
      simp only [Act.put, List.setIfInBounds_toArray, List.set_cons_zero, List.set_cons_succ]
      refine wpAnyN_take_at 3 93 (v := ?_) rfl rfl (by kernel_rfl) (by kernel_rfl) (by kernel_rfl) (by kernel_rfl) (by kernel_rfl) (fun _ _ _ h => h) (by rfl) ?_ HS.out ?_
      rotate_left
      · intro W hSw; (try dsimp only at hSw); have q1 := CV1.out W hSw.1; go_simp; (try with_reducible rfl)
      simp only [Act.put, List.setIfInBounds_toArray, List.set_cons_zero, List.set_cons_succ]
      refine wpAnyN_take_at 4 94 (v := ?_) rfl rfl (by kernel_rfl) (by kernel_rfl) (by kernel_rfl) (by kernel_rfl) (by kernel_rfl) (fun _ _ _ h => h) (by rfl) ?_ HS.out ?_
      rotate_left
      · intro W hSw; (try dsimp only at hSw); go_simp; (try with_reducible rfl)
      simp only [Act.put, List.setIfInBounds_toArray, List.set_cons_zero, List.set_cons_succ]
      refine wpAnyN_take_at 8 98 (v := ?_) rfl rfl (by kernel_rfl) (by kernel_rfl) (by kernel_rfl) (by kernel_rfl) (by kernel_rfl) (fun _ _ _ h => h) (by rfl) ?_ HS.out ?_
      rotate_left
      · intro W hSw; (try dsimp only at hSw); go_simp; (try with_reducible rfl)
      simp only [Act.put, List.setIfInBounds_toArray, List.set_cons_zero, List.set_cons_succ]
      refine wpAnyN_take_at 9 99 (v := ?_) rfl rfl (by kernel_rfl) (by kernel_rfl) (by kernel_rfl) (by kernel_rfl) (by kernel_rfl) (fun _ _ _ h => h) (by rfl) ?_ HS.out ?_
      rotate_left
      · intro W hSw; (try dsimp only at hSw); go_simp; (try with_reducible rfl)
      simp only [Act.put, List.setIfInBounds_toArray, List.set_cons_zero, List.set_cons_succ]
      refine wpAnyN_take_at 10 100 (v := ?_) rfl rfl (by kernel_rfl) (by kernel_rfl) (by kernel_rfl) (by kernel_rfl) (by kernel_rfl) (fun _ _ _ h => h) (by rfl) ?_ HS.out ?_
      rotate_left
      · intro W hSw; (try dsimp only at hSw); go_simp; (try with_reducible rfl)
      simp only [Act.put, List.setIfInBounds_toArray, List.set_cons_zero, List.set_cons_succ]
      refine wpAnyN_take_at 11 101 (v := ?_) rfl rfl (by kernel_rfl) (by kernel_rfl) (by kernel_rfl) (by kernel_rfl) (by kernel_rfl) (fun _ _ _ h => h) (by rfl) ?_ HS.out ?_
      rotate_left
      · intro W hSw; (try dsimp only at hSw); have q1 := CV2.out W hSw.1; go_simp; (try with_reducible rfl)
      simp only [Act.put, List.setIfInBounds_toArray, List.set_cons_zero, List.set_cons_succ]
      refine wpAnyN_take_at 13 103 (v := ?_) rfl rfl (by kernel_rfl) (by kernel_rfl) (by kernel_rfl) (by kernel_rfl) (by kernel_rfl) (fun _ _ _ h => h) (by rfl) ?_ HS.out ?_
      rotate_left
      · intro W hSw; (try dsimp only at hSw); go_simp; (try with_reducible rfl)
      simp only [Act.put, List.setIfInBounds_toArray, List.set_cons_zero, List.set_cons_succ]
      clear hs1 hs2 CV1 CV2
      have hcg := conv_byte wd a3 g0 (by omega)
      have HLw := Lib.hid (HLaw.out V HV.out a3.toNat.toUInt8 GH.out i a4.data.toList)
      have hX1 : (⟨(V.take i).toArray⟩ : ByteArray).size ≤ 11 := by rw [str_size, List.length_take]; omega
      have hX2 : (⟨(V.drop i).toArray⟩ : ByteArray).size ≤ 11 := by rw [str_size, List.length_drop]; omega
      have EX1 := Lib.hid (show (⟨(V.take i).toArray⟩ : ByteArray).data.toList = V.take i from rfl)
      have EX2 := Lib.hid (show (⟨(V.drop i).toArray⟩ : ByteArray).data.toList = V.drop i from rfl)
      generalize (⟨(V.take i).toArray⟩ : ByteArray) = X1 at *
      generalize (⟨(V.drop i).toArray⟩ : ByteArray) = X2 at *
      have hbA := Lib.hid (show BytesIn (wd.alloc (.cells #[.int .u8 a3] 5)) (w1.heap.size + 1) V ∧ Below w.heap.size w (wd.alloc (.cells #[.int .u8 a3] 5)) from ⟨HS.out.1.below ((Below.refl _ wd).alloc (Nat.le_refl _) _), HS.out.2.alloc HS.out.2.size _⟩)
      have y1 : (X1 ++ (⟨#[a3.toNat.toUInt8]⟩ : ByteArray)).size ≤ 12 := by rw [ByteArray.size_append]; show _ + 1 ≤ _; omega
      have y2 : (X1 ++ (⟨#[a3.toNat.toUInt8]⟩ : ByteArray) ++ X2).size ≤ 23 := by rw [ByteArray.size_append]; omega
      have y3 : (X1 ++ (⟨#[a3.toNat.toUInt8]⟩ : ByteArray) ++ X2 ++ a4).size ≤ 100 := by rw [ByteArray.size_append]; omega
      have s1 := fun W => run_string_add_sum (P := Tryd.prog) W X1 (⟨#[a3.toNat.toUInt8]⟩ : ByteArray) (by show _ + 1 ≤ _; omega)
      have s2 := fun W => run_string_add_sum (P := Tryd.prog) W (X1 ++ (⟨#[a3.toNat.toUInt8]⟩ : ByteArray)) X2 (by omega)
      have s3 := fun W => run_string_add_sum (P := Tryd.prog) W (X1 ++ (⟨#[a3.toNat.toUInt8]⟩ : ByteArray) ++ X2) a4 (by omega)
      have cs := fun W hn => safe_any (X1 ++ (⟨#[a3.toNat.toUInt8]⟩ : ByteArray) ++ X2 ++ a4) W hn (by omega)
      rw [show (X1 ++ (⟨#[a3.toNat.toUInt8]⟩ : ByteArray) ++ X2 ++ a4).data.toList = V.take i ++ [a3.toNat.toUInt8] ++ V.drop i ++ a4.data.toList from by simp [EX1.out, EX2.out], HLw.out] at cs
      refine wpAnyN_one (i := 5) rfl (by kernel_rfl) (fun K hK => ?_)
      go_simp
      refine hK _ _ (fun _ => hbA.out) ?_
      clear hK
      (try simp only [Act.put, List.setIfInBounds_toArray, List.set_cons_zero, List.set_cons_succ])
      refine wpAnyN_one (i := 6) rfl (by kernel_rfl) (fun K hK => ?_)
      go_simp
      refine hK _ _ (fun _ => hbA.out) ?_
      clear hK
      (try simp only [Act.put, List.setIfInBounds_toArray, List.set_cons_zero, List.set_cons_succ])
      refine wpAnyN_one (i := 7) rfl (by kernel_rfl) (fun K hK => ?_)
      go_simp
      refine hK _ _ (fun _ => hbA.out) ?_
      clear hK
      (try simp only [Act.put, List.setIfInBounds_toArray, List.set_cons_zero, List.set_cons_succ])
      refine wpAnyN_one (i := 12) rfl (by kernel_rfl) (fun K hK => ?_)
      go_simp
      refine hK _ _ (fun _ => hbA.out) ?_
      clear hK
      (try simp only [Act.put, List.setIfInBounds_toArray, List.set_cons_zero, List.set_cons_succ])
      have hszA : (wd.alloc (.cells #[.int .u8 a3] 5)).heap.size = wd.heap.size + 1 := alloc_size _ _
      have hBar := Lib.hid (HN.out.below hbA.out.2).2
      have HBW := Lib.hid hbA.out.2
      clear hcg hszA
      generalize wd.alloc (.cells #[.int .u8 a3] 5) = we at *
      refine wpAnyN_rest 14 [_, _] rfl (by kernel_rfl) (by kernel_rfl) ?_
      generalize (⟨#[a3.toNat.toUInt8]⟩ : ByteArray) = G at *
      by_cases h4j : 4 ≤ j
      · rw [decide_eq_true h4j] at cs
        have CS := Lib.hid cs
        have h4i : (4 : Int) ≤ (j : Int) := by omega
        clear cs
        go_wp2_with fail
        refine (CS.out _ hBar.out).mono ?_
        rintro e' w5 ⟨rfl, b5⟩
        go_wp2
        go_ret
        exact ⟨rfl, HBW.out.then b5⟩
      · rw [decide_eq_false h4j] at cs
        have CS := Lib.hid cs
        have h4i : ¬ (4 : Int) ≤ (j : Int) := by omega
        clear cs
        go_wp2_with fail
        refine (CS.out _ hBar.out).mono ?_
        rintro e' w5 ⟨rfl, b5⟩
        go_wp2
        go_ret
        exact ⟨ret_bool (by simp; omega), HBW.out.then b5⟩

set_option maxHeartbeats 1000000 in
set_option maxRecDepth 100000 in
theorem targetSchemes_walk (w : World) (hn : TenIs w) (a0 : Int) (w0 : (Lit.int .i64 a0).wf = true) (A1 : Option Addr) (c1 : Nat) (z1 : List Bool) (r1 : RowOf w A1 c1 (z1.map Value.bool)) (a2 : Int) (w2 : (Lit.int .i64 a2).wf = true) (a3 : Int) (w3 : (Lit.int .u8 a3).wf = true) (a4 : ByteArray) (w4 : a4.size ≤ maxLen) :
    Calls Tryd.prog 3 #[.int .i64 a0, .slice A1 z1.length c1, .int .i64 a2, .int .u8 a3, .string a4] w fun e w' => e = .returned (.bool true) ∧ Below w.heap.size w w' := by
  unfold maxLen at w4
  have hw0 : -9223372036854775808 ≤ a0 ∧ a0 ≤ 9223372036854775807 := by simpa [Lit.wf, IntKind.min, IntKind.max, IntKind.signed, IntKind.bits] using w0
  have hw2 : -9223372036854775808 ≤ a2 ∧ a2 ≤ 9223372036854775807 := by simpa [Lit.wf, IntKind.min, IntKind.max, IntKind.signed, IntKind.bits] using w2
  have hw3 : 0 ≤ a3 ∧ a3 ≤ 255 := by simpa [Lit.wf, IntKind.min, IntKind.max, IntKind.signed, IntKind.bits] using w3
  by_cases h4 : a4.size ≤ 60
  · by_cases h3 : a3 ≤ 32
    · exact targetSchemes_in w hn a0 A1 c1 z1 r1 a2 a3 a4 hw0 hw2 hw3.1 h3 h4
    · by_cases h5 : a3 = 127
      · exact targetSchemes_del w hn a0 A1 c1 z1 r1 a2 a3 a4 hw0 hw2 hw3.1 h5 h4
      · have ca := alive10_any w hn
        have ga : (32 : Int) < a3 := by omega
        have gb : (a3 != 127) = true := by simpa using h5
        clear hn r1 w0 w2 w3 h3 h5
        go_enter Tryd.func3, Tryd.ntmps3
        go_wp2_with (go_at_call 9; refine ca.mono ?_; rintro e w1 ⟨rfl, b1⟩)
        go_ret
        exact ⟨rfl, b1⟩
  · have ca := alive10_any w hn
    clear hn r1 w0 w2 w3
    go_enter Tryd.func3, Tryd.ntmps3
    go_wp2_with (go_at_call 9; refine ca.mono ?_; rintro e w1 ⟨rfl, b1⟩)
    go_ret
    exact ⟨rfl, b1⟩

end Go.Proofs.YtkldloglpbiioaaDoor
