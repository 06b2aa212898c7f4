/-
  Package block: indented, fenced, raw, para, leaf: what each answers, in plain words.
-/
import Derived.Test.YtoleoigpijgboaaDoorBlkB
import Derived.Laws.ResultCell
namespace Go.Proofs.YtoleoigpijgboaaDoor
open Go.RowKit
set_option linter.unusedSimpArgs false
set_option linter.unusedVariables false
set_option maxRecDepth 100000

/-- Where a list goes on from its k-th element. -/
def dropA (A : Option Addr) (cap k : Nat) : Option Addr := if cap = k then A else A.map (·.add k)
theorem RowOf.dropL {w : World} {A : Option Addr} {cap : Nat} {ls : List (List UInt8)} (h : RowOf w A cap (strs ls)) {k : Nat} (hk : k ≤ ls.length) : RowOf w (dropA A cap k) (cap - k) (strs (ls.drop k)) := by
  have h1 := h.1
  have h2 := h.2.1
  rw [strs_length] at h1
  refine ⟨by rw [strs_length, List.length_drop]; omega, by omega, ?_⟩
  by_cases h0 : ls.drop k = []
  · exact Or.inl (by rw [h0]; rfl)
  · have hlt : k < ls.length := by
      rw [List.drop_eq_nil_iff] at h0
      omega
    obtain ⟨b, off, e, hb, hc⟩ := h.at (fun e => by have := congrArg List.length e; rw [strs_length, List.length_nil] at this; omega)
    refine Or.inr ⟨b, off + k, ?_, hb, fun i hi => ?_⟩
    · unfold dropA
      rw [if_neg (by omega), e, Option.map_some, addr_add]
    · rw [strs_length, List.length_drop] at hi
      have := hc (k + i) (by rw [strs_length]; omega)
      rw [← Nat.add_assoc] at this
      rw [this, strs_get, strs_get, List.getElem_drop]
theorem RowOf.takeL {w : World} {A : Option Addr} {cap : Nat} {ls : List (List UInt8)} (h : RowOf w A cap (strs ls)) (k : Nat) : RowOf w A cap (strs (ls.take k)) := by
  have := h.take k
  rw [show (strs ls).take k = strs (ls.take k) from by simp [strs]] at this
  exact this
theorem infoStr : Tryd.prog.elem 22 = 9 := by kernel_rfl
theorem slice_low (A : Option Addr) (len cap k : Nat) (h : k ≤ len) (W : World) : (Instr.slice 22 (.slice A len cap) (some (.int .i64 (k : Int))) none none).run Tryd.prog W = .ok (.slice (dropA A cap k) (len - k) (cap - k)) W := by
  rw [run_slice_l W 22 A len cap (by kernel_rfl) .i64 (k : Int) (by omega) (by omega)]
  rw [show Tryd.prog.elem 22 = 9 from infoStr]
  go_simp
  simp [sliced, dropA]
theorem slice_lowhigh (A : Option Addr) (len cap k j : Nat) (h : k ≤ j) (hj : j ≤ cap) (W : World) : (Instr.slice 22 (.slice A len cap) (some (.int .i64 (k : Int))) (some (.int .i64 (j : Int))) none).run Tryd.prog W = .ok (.slice (dropA A cap k) (j - k) (cap - k)) W := by
  rw [run_slice_lh W 22 A len cap (by kernel_rfl) .i64 .i64 (k : Int) (j : Int) (by omega) (by omega) (by omega)]
  rw [show Tryd.prog.elem 22 = 9 from infoStr]
  go_simp
  simp [sliced, dropA]

/-! ### A block as a result -/
def blkC (b : Blk) : List Value := [.int .i64 b.kind, .int .i64 b.depth, .int .i64 b.n, .bool b.tight, .string ⟨b.text.toArray⟩, .string ⟨b.info.toArray⟩]
def blkV (b : Blk) : Value := .agg #[.int .i64 b.kind, .int .i64 b.depth, .int .i64 b.n, .bool b.tight, .string ⟨b.text.toArray⟩, .string ⟨b.info.toArray⟩]
def zeroC : Array Value := #[.int .i64 0, .int .i64 0, .int .i64 0, .bool false, .string ⟨#[]⟩, .string ⟨#[]⟩]
def BlkAt (w : World) (g : Nat) (b : Blk) : Prop := w.heap[g]? = some (.cells #[.int .i64 b.kind, .int .i64 b.depth, .int .i64 b.n, .bool b.tight, .string ⟨b.text.toArray⟩, .string ⟨b.info.toArray⟩] 28 (0, 0))
theorem BlkAt.below {w w' : World} {g : Nat} {b : Blk} (h : BlkAt w g b) (hb : Below w.heap.size w w') : BlkAt w' g b := (hb.block g (Array.getElem?_eq_some_iff.1 h).1).trans h
theorem BlkAt.cells {w : World} {g : Nat} {b : Blk} (h : BlkAt w g b) : w.cell? ⟨g, 0, none⟩ = some (.int .i64 b.kind) ∧ w.cell? ⟨g, 1, none⟩ = some (.int .i64 b.depth) ∧ w.cell? ⟨g, 2, none⟩ = some (.int .i64 b.n) ∧
    w.cell? ⟨g, 3, none⟩ = some (.bool b.tight) ∧ w.cell? ⟨g, 4, none⟩ = some (.string ⟨b.text.toArray⟩) ∧ w.cell? ⟨g, 5, none⟩ = some (.string ⟨b.info.toArray⟩) ∧ ∀ i, w.frozen? ⟨g, i, none⟩ = false := by
  unfold BlkAt at h
  refine ⟨?_, ?_, ?_, ?_, ?_, ?_, fun i => by simp [World.frozen?, h]⟩
  · rw [cell_of_row w _ 0 _ _ (0, 0) h]; rfl
  · rw [cell_of_row w _ 1 _ _ (0, 0) h]; rfl
  · rw [cell_of_row w _ 2 _ _ (0, 0) h]; rfl
  · rw [cell_of_row w _ 3 _ _ (0, 0) h]; rfl
  · rw [cell_of_row w _ 4 _ _ (0, 0) h]; rfl
  · rw [cell_of_row w _ 5 _ _ (0, 0) h]; rfl
/-- All six cells set anew. -/
theorem BlkAt.set {w : World} {g : Nat} {b : Blk} (h : BlkAt w g b) (y : Blk) :
    BlkAt ((((((w.setCell ⟨g, 0, none⟩ (.int .i64 y.kind)).setCell ⟨g, 1, none⟩ (.int .i64 y.depth)).setCell ⟨g, 2, none⟩ (.int .i64 y.n)).setCell ⟨g, 3, none⟩ (.bool y.tight)).setCell ⟨g, 4, none⟩ (.string ⟨y.text.toArray⟩)).setCell ⟨g, 5, none⟩ (.string ⟨y.info.toArray⟩)) g y := by
  unfold BlkAt at *
  simp [World.setCell, Array.getElem?_modify, h]
theorem below_set6 {B : Nat} {w0 w : World} {g : Nat} (h : Below B w0 w) (hg : B ≤ g) (u0 u1 u2 u3 u4 u5 : Value) :
    Below B w0 ((((((w.setCell ⟨g, 0, none⟩ u0).setCell ⟨g, 1, none⟩ u1).setCell ⟨g, 2, none⟩ u2).setCell ⟨g, 3, none⟩ u3).setCell ⟨g, 4, none⟩ u4).setCell ⟨g, 5, none⟩ u5) :=
  (((((h.setCell (p := ⟨g, 0, none⟩) hg u0).setCell (p := ⟨g, 1, none⟩) hg u1).setCell (p := ⟨g, 2, none⟩) hg u2).setCell (p := ⟨g, 3, none⟩) hg u3).setCell (p := ⟨g, 4, none⟩) hg u4).setCell (p := ⟨g, 5, none⟩) hg u5
theorem blkAt_new (w : World) (b : Blk) : BlkAt (w.alloc (.cells #[.int .i64 b.kind, .int .i64 b.depth, .int .i64 b.n, .bool b.tight, .string ⟨b.text.toArray⟩, .string ⟨b.info.toArray⟩] 28)) w.heap.size b := heap_alloc_new w _
def zeroO : Obj := .cells #[.int .i64 0, .int .i64 0, .int .i64 0, .bool false, .string ⟨#[]⟩, .string ⟨#[]⟩] 28
theorem blkAt_zero (w : World) : BlkAt (w.alloc (.cells #[.int .i64 0, .int .i64 0, .int .i64 0, .bool false, .string ⟨#[]⟩, .string ⟨#[]⟩] 28)) w.heap.size zeroBlk := heap_alloc_new w _
theorem ret_blk {fn : Func} {p u : Tmp} (hres : fn.results = #[.cell p 28, .tmp u]) {W : World} {g : Nat} {b : Blk} (h : BlkAt W g b) {c : Value} {tmps : Array Value} (h2 : tmps.getD p undef = .pointer (some ⟨g, 0, none⟩)) (h3 : tmps.getD u undef = c) :
    (results fn tmps).run Tryd.prog W = .ok (.tuple #[blkV b, c]) W := by
  obtain ⟨c0, c1, c2, c3, c4, c5, _⟩ := h.cells
  rw [results_cell_tmp hres, h2, h3]
  go_simp
  rfl

set_option maxHeartbeats 8000000 in
theorem indented_any (A : Option Addr) (cap : Nat) (ls : List (List UInt8)) (w : World) (hrow : RowOf w A cap (strs ls)) (hf : Few ls) :
    Calls Tryd.prog 46 #[.slice A ls.length cap] w fun e w' => e = .returned (.tuple #[blkV (indentedL ls).1, .int .i64 (indentedL ls).2]) ∧ Below w.heap.size w w' := by
  have hcl := hrow.strs_le
  have hlen := hf.len
  have b0 : Below w.heap.size w (w.alloc (.cells #[.int .i64 0, .int .i64 0, .int .i64 0, .bool false, .string ⟨#[]⟩, .string ⟨#[]⟩] 28)) := (Below.refl _ w).alloc (Nat.le_refl _) _
  have z0 := blkAt_zero w
  have hs0 := alloc_size w (.cells #[.int .i64 0, .int .i64 0, .int .i64 0, .bool false, .string ⟨#[]⟩, .string ⟨#[]⟩] 28)
  have HR := Lib.hid hrow
  have HF := Lib.hid hf
  have hnl := deepL_le 4 ls
  have c1 := fun W h => deep_any 4 (by omega) A cap ls W h hf
  have hq : indentedL ls = (⟨6, 0, 0, false, joinL (strippedL 4 (ls.take (deepL 4 ls))), []⟩, deepL 4 ls) := rfl
  rw [hq]
  generalize hn : deepL 4 ls = n at *
  have htl : (ls.take n).length = n := by rw [List.length_take]; omega
  have hsl : (strippedL 4 (ls.take n)).length = n := by unfold strippedL; rw [List.length_map]; exact htl
  have c2 := fun W h => stripped_any 4 (by omega) A cap (ls.take n) W h (hf.take n)
  rw [htl] at c2
  have HSL := Lib.hid hsl
  have HJ := Lib.hid ((hf.take n).stripped 4).join
  generalize hX : strippedL 4 (ls.take n) = X at *
  have HB0 := Lib.hid b0
  have HZ0 := Lib.hid z0
  clear hf hrow hn hX htl hsl hq b0 z0
  go_enter Tryd.func46, Tryd.ntmps46
  go_wp2_with fail
  refine (c1 _ (HR.out.below HB0.out)).mono ?_
  rintro e w1 ⟨rfl, b1⟩
  have HB1 := Lib.hid (HB0.out.then b1)
  have HZ1 := Lib.hid (HZ0.out.below b1)
  have hs1 := b1.size
  clear b1 c1
  go_wp2_with fail
  refine (c2 _ ((HR.out.below HB1.out).takeL n)).mono ?_
  rintro e w2 ⟨v, rfl, hown, b2⟩
  rw [← HSL.out] at hown
  obtain ⟨A2, cap2, rfl, hrow2, _⟩ := RowOf.own hown
  have cj := join_any A2 cap2 X w2 hrow2 (by have := HJ.out; omega)
  rw [HSL.out] at cj
  rw [HSL.out]
  have HB2 := Lib.hid (HB1.out.then b2)
  have HZ2 := Lib.hid (HZ1.out.below b2)
  have hs2 := b2.size
  clear b2 c2 hown hrow2
  go_wp2_with fail
  refine cj.mono ?_
  rintro e w3 ⟨rfl, b3⟩
  have HB3 := Lib.hid (HB2.out.then b3)
  have hz3 := HZ2.out.below b3
  obtain ⟨k0, k1, k2, k3, k4, k5, kf⟩ := hz3.cells
  have HZ3 := Lib.hid hz3
  clear b3 cj hz3
  generalize hT : joinL X = T at *
  have HT := Lib.hid hT
  clear hT
  have HS := Lib.hid (HZ3.out.set ⟨6, 0, 0, false, T, []⟩)
  have HW := Lib.hid (below_set6 HB3.out (Nat.le_refl _) (.int .i64 6) (.int .i64 0) (.int .i64 0) (.bool false) (.string ⟨T.toArray⟩) (.string ⟨#[]⟩))
  go_wp2
  (try simp only [Exit.inBlock, Exit.then])
  refine bodyPost_ret (ret_blk rfl HS.out rfl rfl) rfl ⟨by rw [HT.out]; rfl, HW.out⟩
/-! ### More leaves -/
theorem ret_blkn {b : Blk} {i j : Int} (h : i = j) : Ending.returned (.tuple #[blkV b, .int .i64 i]) = .returned (.tuple #[blkV b, .int .i64 j]) := by rw [h]
theorem rawN_none {ls : List (List UInt8)} (h : ls.findIdx? (fun s => s.all isGap) = none) : rawN ls = ls.length := by
  induction ls with
  | nil => rfl
  | cons s l ih =>
    rw [List.findIdx?_cons] at h
    cases hb : s.all isGap with
    | true => rw [hb] at h; cases h
    | false =>
      rw [hb] at h
      simp only [Bool.false_eq_true, if_false, Option.map_eq_none_iff] at h
      unfold rawN at ih ⊢
      rw [List.takeWhile_cons, if_pos (by rw [hb]; rfl), List.length_cons, ih h, List.length_cons]
theorem rawN_at {ls : List (List UInt8)} {k : Nat} (h : ls.findIdx? (fun s => s.all isGap) = some k) : rawN ls = k := by
  induction ls generalizing k with
  | nil => cases h
  | cons s l ih =>
    rw [List.findIdx?_cons] at h
    unfold rawN at ih ⊢
    cases hb : s.all isGap with
    | true => rw [hb] at h; rw [List.takeWhile_cons, if_neg (by rw [hb]; simp)]; cases h; rfl
    | false =>
      rw [hb] at h
      simp only [Bool.false_eq_true, if_false] at h
      cases hj : l.findIdx? (fun s => s.all isGap) with
      | none => rw [hj] at h; cases h
      | some j =>
        rw [hj] at h
        simp only [Option.map_some, Option.some.injEq] at h
        subst h
        rw [List.takeWhile_cons, if_pos (by rw [hb]; rfl), List.length_cons, ih hj]
theorem findIdx_lt {p : List UInt8 → Bool} {l : List (List UInt8)} {k : Nat} (h : l.findIdx? p = some k) : k < l.length := by
  rw [List.findIdx?_eq_some_iff_findIdx_eq] at h
  exact h.1

set_option maxHeartbeats 8000000 in
theorem raw_any (A : Option Addr) (cap : Nat) (ls : List (List UInt8)) (w : World) (hrow : RowOf w A cap (strs ls)) (hf : Few ls) :
    Calls Tryd.prog 36 #[.slice A ls.length cap] w fun e w' => e = .returned (.tuple #[blkV (rawL ls).1, .int .i64 (rawL ls).2]) ∧ Below w.heap.size w w' := by
  have hcl := hrow.strs_le
  have hlen := hf.len
  have b0 : Below w.heap.size w (w.alloc (.cells #[.int .i64 0, .int .i64 0, .int .i64 0, .bool false, .string ⟨#[]⟩, .string ⟨#[]⟩] 28)) := (Below.refl _ w).alloc (Nat.le_refl _) _
  have hs0 := alloc_size w (.cells #[.int .i64 0, .int .i64 0, .int .i64 0, .bool false, .string ⟨#[]⟩, .string ⟨#[]⟩] 28)
  have HZ0 := Lib.hid (blkAt_zero w)
  have HR := Lib.hid hrow
  have hnl := rawN_le ls
  have c1 := fun W h => indexBlank_any A cap ls W h hf
  have HN := Lib.hid (show idxI (ls.findIdx? fun s => s.all isGap) = -1 ∧ rawN ls = ls.length ∨ idxI (ls.findIdx? fun s => s.all isGap) = (rawN ls : Int) from by
    cases h : ls.findIdx? (fun s => s.all isGap) with
    | none => exact Or.inl ⟨rfl, rawN_none h⟩
    | some k => exact Or.inr (by rw [rawN_at h]; rfl))
  generalize idxI (ls.findIdx? fun s => s.all isGap) = z at *
  have hq : rawL ls = (⟨8, 0, 0, false, joinL (ls.take (rawN ls)), []⟩, rawN ls) := rfl
  rw [hq]
  generalize hn : rawN ls = n at *
  have htl : (ls.take n).length = n := by rw [List.length_take]; omega
  have c2 := fun W h => join_any A cap (ls.take n) W h (by have := (hf.take n).join; omega)
  rw [htl] at c2
  generalize hT : joinL (ls.take n) = T at *
  have HB0 := Lib.hid b0
  clear hf hrow hn hT htl hq b0
  rcases HN.out with ⟨hz, hnn⟩ | hz
  · subst hz
    subst hnn
    go_enter Tryd.func36, Tryd.ntmps36
    go_wp2_with fail
    refine (c1 _ (HR.out.below HB0.out)).mono ?_
    rintro e w1 ⟨rfl, b1⟩
    have HB1 := Lib.hid (HB0.out.then b1)
    have HZ1 := Lib.hid (HZ0.out.below b1)
    have hs1 := b1.size
    clear b1 c1
    go_wp2_with fail
    refine (c2 _ ((HR.out.below HB1.out).takeL _)).mono ?_
    rintro e w3 ⟨rfl, b3⟩
    have HB3 := Lib.hid (HB1.out.then b3)
    have hz3 := HZ1.out.below b3
    obtain ⟨k0, k1, k2, k3, k4, k5, kf⟩ := hz3.cells
    have HZE := Lib.hid hz3
    clear b3 c2 hz3
    have HS := Lib.hid (HZE.out.set ⟨8, 0, 0, false, T, []⟩)
    have HW := Lib.hid (below_set6 (g := w.heap.size) HB3.out (Nat.le_refl _) (.int .i64 (8)) (.int .i64 (0)) (.int .i64 (0)) (.bool false) (.string ⟨T.toArray⟩) (.string ⟨#[]⟩))
    go_wp2
    (try simp only [Exit.inBlock, Exit.then])
    refine bodyPost_ret (ret_blk rfl HS.out rfl rfl) rfl ⟨rfl, HW.out⟩
  · subst hz
    have f1 : decide ((n : Int) < 0) = false := by simp <;> omega
    go_enter Tryd.func36, Tryd.ntmps36
    go_wp2_with fail
    refine (c1 _ (HR.out.below HB0.out)).mono ?_
    rintro e w1 ⟨rfl, b1⟩
    have HB1 := Lib.hid (HB0.out.then b1)
    have HZ1 := Lib.hid (HZ0.out.below b1)
    have hs1 := b1.size
    clear b1 c1
    go_wp2_with fail
    refine (c2 _ ((HR.out.below HB1.out).takeL _)).mono ?_
    rintro e w3 ⟨rfl, b3⟩
    have HB3 := Lib.hid (HB1.out.then b3)
    have hz3 := HZ1.out.below b3
    obtain ⟨k0, k1, k2, k3, k4, k5, kf⟩ := hz3.cells
    have HZE := Lib.hid hz3
    clear b3 c2 hz3
    have HS := Lib.hid (HZE.out.set ⟨8, 0, 0, false, T, []⟩)
    have HW := Lib.hid (below_set6 (g := w.heap.size) HB3.out (Nat.le_refl _) (.int .i64 (8)) (.int .i64 (0)) (.int .i64 (0)) (.bool false) (.string ⟨T.toArray⟩) (.string ⟨#[]⟩))
    go_wp2
    (try simp only [Exit.inBlock, Exit.then])
    refine bodyPost_ret (ret_blk rfl HS.out rfl rfl) rfl ⟨rfl, HW.out⟩

set_option maxHeartbeats 8000000 in
theorem fenced_any (A : Option Addr) (cap : Nat) (s : List UInt8) (r : List (List UInt8)) (c : UInt8) (hc : c.toNat < 128) (n : Nat) (info : List UInt8) (w : World) (hrow : RowOf w A cap (strs (s :: r))) (hf : Few (s :: r)) :
    Calls Tryd.prog 48 #[.slice A (r.length + 1) cap, .int .u8 c.toNat, .int .i64 n, .string ⟨info.toArray⟩] w fun e w' => e = .returned (.tuple #[blkV (fencedL (s :: r) c n info).1, .int .i64 (fencedL (s :: r) c n info).2]) ∧ Below w.heap.size w w' := by
  have hcl := hrow.strs_le
  have hlen := hf.len
  rw [List.length_cons] at hcl hlen
  have q1 : Below w.heap.size w (w.alloc (.cells #[.int .u8 c.toNat] 5)) := (Below.refl _ w).alloc (Nat.le_refl _) _
  have x1 : (w.alloc (.cells #[.int .u8 c.toNat] 5)).cell? ⟨w.heap.size, 0, none⟩ = some (.int .u8 c.toNat) := (cell_of_row _ _ 0 _ _ (0, 0) (heap_alloc_new w _)).trans rfl
  have s1 := alloc_size w (.cells #[.int .u8 c.toNat] 5)
  generalize hw1 : w.alloc (.cells #[.int .u8 c.toNat] 5) = w1 at *
  have q2 : Below w1.heap.size w1 (w1.alloc (.cells #[.int .i64 n] 3)) := (Below.refl _ w1).alloc (Nat.le_refl _) _
  have x2 : (w1.alloc (.cells #[.int .i64 n] 3)).cell? ⟨w1.heap.size, 0, none⟩ = some (.int .i64 n) := (cell_of_row _ _ 0 _ _ (0, 0) (heap_alloc_new w1 _)).trans rfl
  have s2 := alloc_size w1 (.cells #[.int .i64 n] 3)
  have x1b := (q2.cell (p := ⟨w.heap.size, 0, none⟩) (by show w.heap.size < _; omega)).trans x1
  have q12 := q1.then q2
  generalize hw2 : w1.alloc (.cells #[.int .i64 n] 3) = w2 at *
  have q3 : Below w2.heap.size w2 (w2.alloc (.cells #[.int .i64 0, .int .i64 0, .int .i64 0, .bool false, .string ⟨#[]⟩, .string ⟨#[]⟩] 28)) := (Below.refl _ w2).alloc (Nat.le_refl _) _
  have z3 := blkAt_zero w2
  have s3 := alloc_size w2 (.cells #[.int .i64 0, .int .i64 0, .int .i64 0, .bool false, .string ⟨#[]⟩, .string ⟨#[]⟩] 28)
  have x1c := (q3.cell (p := ⟨w.heap.size, 0, none⟩) (by show w.heap.size < _; omega)).trans x1b
  have x2c := (q3.cell (p := ⟨w1.heap.size, 0, none⟩) (by show w1.heap.size < _; omega)).trans x2
  have q13 := q12.then q3
  generalize hw3 : w2.alloc (.cells #[.int .i64 0, .int .i64 0, .int .i64 0, .bool false, .string ⟨#[]⟩, .string ⟨#[]⟩] 28) = w3 at *
  rw [s2, s1] at z3
  rw [s1] at x2c s2
  have HQ := Lib.hid q13
  have HZ := Lib.hid z3
  have HR := Lib.hid hrow
  have hmf : ∀ (fn : Fn) (first cap : Array Value) (w : World), (Instr.makeFunc fn first cap).run Tryd.prog w = .ok (.func fn first cap) w := fun _ _ _ _ => rfl
  have hsl := fun W => slice_low A (r.length + 1) cap 1 (by omega) W
  simp only [Nat.add_sub_cancel, show ((1 : Nat) : Int) = 1 from rfl] at hsl
  have hrt := hrow.dropL (k := 1) (by simp)
  rw [show (s :: r).drop 1 = r from rfl] at hrt
  have HRT := Lib.hid hrt
  obtain ⟨b, off, hA, hb, hcell⟩ := hrow.cellAt (k := 0) (by simp)
  rw [show (s :: r)[0] = s from rfl, Nat.add_zero] at hcell
  have hft : Few r := hf.drop 1
  have hsz := hf.size (k := 0) (by simp)
  rw [show (s :: r)[0] = s from rfl] at hsz
  have ci := fun W => indent_any ⟨s.toArray⟩ W (by rw [str_size]; omega)
  rw [show (⟨s.toArray⟩ : ByteArray).data.toList = s from rfl] at ci
  have hm1 := mCols_le s 0
  have hm2 := mSize_le s
  have cx := fun W h h1 h2 h3 h4 => indexCloses_any (dropA A cap 1) (cap - 1) r w.heap.size (w.heap.size + 1) c hc n W h hft h1 h2 h3 h4
  have HF := Lib.hid hft
  unfold fencedL
  rw [List.tail_cons, List.headD_cons]
  clear hf hrow hft q1 q2 q3 q12 q13 x1 x1b x2 z3 hrt
  generalize hmc : mCols s 0 = mc at *
  have HC := Lib.hid hcell
  clear hcell hmc
  cases hk : r.findIdx? (fun s => mkCloses s c n) with
  | none =>
    rw [hk] at cx
    unfold idxI at cx
    dsimp only at cx ⊢
    have hsl2 : (strippedL mc r).length = r.length := by unfold strippedL; rw [List.length_map]
    have c2 := fun W h => stripped_any mc (by omega) (dropA A cap 1) (cap - 1) r W h HF.out
    have HSL := Lib.hid hsl2
    have HJ := Lib.hid (HF.out.stripped mc).join
    generalize hX : strippedL mc r = X at *
    clear hk hX hsl2
    subst hA
    go_enter Tryd.func48, Tryd.ntmps48
    go_wp2_with fail
    refine (cx _ (HRT.out.below HQ.out) (by omega) (by omega) x1c x2c).mono ?_
    rintro e v1 ⟨rfl, b1⟩
    have HB1 := Lib.hid (HQ.out.then b1)
    have HZ1 := Lib.hid (HZ.out.below b1)
    have hv1 := b1.size
    have hcell1 := (HB1.out.cell (p := ⟨b, off, none⟩) hb).trans HC.out
    clear b1 cx x1c x2c
    go_wp2_with fail
    refine (ci _).mono ?_
    rintro e v2 ⟨rfl, b2⟩
    have HB2 := Lib.hid (HB1.out.then b2)
    have HZ2 := Lib.hid (HZ1.out.below b2)
    have hv2 := b2.size
    clear b2 ci hcell1
    go_wp2_with fail
    refine (c2 _ (HRT.out.below HB2.out)).mono ?_
    rintro e v3 ⟨v, rfl, hown, b3⟩
    rw [← HSL.out] at hown
    obtain ⟨A2, cap2, rfl, hrow2, _⟩ := RowOf.own hown
    have cj := join_any A2 cap2 X v3 hrow2 (by have := HJ.out; omega)
    rw [HSL.out] at cj
    rw [HSL.out]
    have HB3 := Lib.hid (HB2.out.then b3)
    have HZ3 := Lib.hid (HZ2.out.below b3)
    have hv3 := b3.size
    clear b3 c2 hown hrow2
    go_wp2_with fail
    refine cj.mono ?_
    rintro e v4 ⟨rfl, b4⟩
    have HB4 := Lib.hid (HB3.out.then b4)
    have hz4 := HZ3.out.below b4
    obtain ⟨k0, k1, k2, k3, k4, k5, kf⟩ := hz4.cells
    have HZE := Lib.hid hz4
    clear b4 cj hz4
    generalize hT : joinL X = T at *
    have HT := Lib.hid hT
    clear hT
    have HS := Lib.hid (HZE.out.set ⟨6, 0, 0, false, T, info⟩)
    have HW := Lib.hid (below_set6 (g := w.heap.size + 1 + 1) HB4.out (by omega) (.int .i64 (6)) (.int .i64 (0)) (.int .i64 (0)) (.bool false) (.string ⟨T.toArray⟩) (.string ⟨info.toArray⟩))
    go_wp2
    (try simp only [Exit.inBlock, Exit.then])
    refine bodyPost_ret (ret_blk rfl HS.out rfl rfl) rfl ⟨by rw [HT.out]; exact ret_blkn (by simp), HW.out⟩
  | some k =>
    rw [hk] at cx
    unfold idxI at cx
    dsimp only at cx ⊢
    have hkl := findIdx_lt hk
    have f1 : decide ((0 : Int) ≤ (k : Int)) = true := by simp
    have htl : (r.take k).length = k := by rw [List.length_take]; omega
    have hsl2 : (strippedL mc (r.take k)).length = k := by unfold strippedL; rw [List.length_map]; exact htl
    have c2 := fun W h => stripped_any mc (by omega) (dropA A cap 1) (cap - 1) (r.take k) W h (HF.out.take k)
    rw [htl] at c2
    have HSL := Lib.hid hsl2
    have HJ := Lib.hid ((HF.out.take k).stripped mc).join
    generalize hX : strippedL mc (r.take k) = X at *
    clear hk hX htl hsl2
    subst hA
    go_enter Tryd.func48, Tryd.ntmps48
    go_wp2_with fail
    refine (cx _ (HRT.out.below HQ.out) (by omega) (by omega) x1c x2c).mono ?_
    rintro e v1 ⟨rfl, b1⟩
    have HB1 := Lib.hid (HQ.out.then b1)
    have HZ1 := Lib.hid (HZ.out.below b1)
    have hv1 := b1.size
    have hcell1 := (HB1.out.cell (p := ⟨b, off, none⟩) hb).trans HC.out
    clear b1 cx x1c x2c
    go_wp2_with fail
    refine (ci _).mono ?_
    rintro e v2 ⟨rfl, b2⟩
    have HB2 := Lib.hid (HB1.out.then b2)
    have HZ2 := Lib.hid (HZ1.out.below b2)
    have hv2 := b2.size
    clear b2 ci hcell1
    go_wp2_with fail
    refine (c2 _ ((HRT.out.below HB2.out).takeL k)).mono ?_
    rintro e v3 ⟨v, rfl, hown, b3⟩
    rw [← HSL.out] at hown
    obtain ⟨A2, cap2, rfl, hrow2, _⟩ := RowOf.own hown
    have cj := join_any A2 cap2 X v3 hrow2 (by have := HJ.out; omega)
    rw [HSL.out] at cj
    rw [HSL.out]
    have HB3 := Lib.hid (HB2.out.then b3)
    have HZ3 := Lib.hid (HZ2.out.below b3)
    have hv3 := b3.size
    clear b3 c2 hown hrow2
    go_wp2_with fail
    refine cj.mono ?_
    rintro e v4 ⟨rfl, b4⟩
    have HB4 := Lib.hid (HB3.out.then b4)
    have hz4 := HZ3.out.below b4
    obtain ⟨k0, k1, k2, k3, k4, k5, kf⟩ := hz4.cells
    have HZE := Lib.hid hz4
    clear b4 cj hz4
    generalize hT : joinL X = T at *
    have HT := Lib.hid hT
    clear hT
    have HS := Lib.hid (HZE.out.set ⟨6, 0, 0, false, T, info⟩)
    have HW := Lib.hid (below_set6 (g := w.heap.size + 1 + 1) HB4.out (by omega) (.int .i64 (6)) (.int .i64 (0)) (.int .i64 (0)) (.bool false) (.string ⟨T.toArray⟩) (.string ⟨info.toArray⟩))
    go_wp2
    (try simp only [Exit.inBlock, Exit.then])
    refine bodyPost_ret (ret_blk rfl HS.out rfl rfl) rfl ⟨by rw [HT.out]; exact ret_blkn (by omega), HW.out⟩

end Go.Proofs.YtoleoigpijgboaaDoor
