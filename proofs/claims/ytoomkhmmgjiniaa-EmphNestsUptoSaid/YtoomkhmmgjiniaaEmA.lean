/-
  Package emph: words, empty, shown, kindOf, fits.
-/
import Derived.Test.YtoomkhmmgjiniaaIln
import Derived.Test.YtoomkhmmgjiniaaEmR
namespace Go.Proofs.Ytoomkhmmgjiniaa
open Go.RowKit
set_option linter.unusedSimpArgs false
set_option linter.unusedVariables false
set_option maxRecDepth 100000

def ilV (x : Iln) : Value := .agg #[.int .i64 x.kd, .int .i64 x.dp, .string ⟨x.txt.toArray⟩, .string ⟨x.url.toArray⟩, .string ⟨x.ttl.toArray⟩]
/-- An item of package emph: lv: its nodes' slice. -/
def itV (x : Itm) (lv : Value) : Value := .agg #[.int .u8 x.sg.toNat, .int .i64 x.ff, .bool x.op, .bool x.cl, lv]
def kindV (sg : UInt8) (b : Bool) (r : Int) : Value := .agg #[.int .u8 sg.toNat, .bool b, .int .i64 r]
def kV (x : Itm) : Value := kindV x.sg (x.op && x.cl) (x.ff.tmod 3)

theorem box5 (w : World) (c0 c1 c2 c3 c4 : Value) (t : TypeId) : (w.alloc (.cells #[c0, c1, c2, c3, c4] t)).cell? ⟨w.heap.size, 0, none⟩ = some c0 ∧ (w.alloc (.cells #[c0, c1, c2, c3, c4] t)).cell? ⟨w.heap.size, 1, none⟩ = some c1 ∧
    (w.alloc (.cells #[c0, c1, c2, c3, c4] t)).cell? ⟨w.heap.size, 2, none⟩ = some c2 ∧ (w.alloc (.cells #[c0, c1, c2, c3, c4] t)).cell? ⟨w.heap.size, 3, none⟩ = some c3 ∧ (w.alloc (.cells #[c0, c1, c2, c3, c4] t)).cell? ⟨w.heap.size, 4, none⟩ = some c4 := by
  have h : ∀ j u, [c0, c1, c2, c3, c4][j]? = some u → _ := elt_cells w [c0, c1, c2, c3, c4] t
  simp only [addr_add, Nat.zero_add] at h
  exact ⟨h 0 _ rfl, h 1 _ rfl, h 2 _ rfl, h 3 _ rfl, h 4 _ rfl⟩
theorem box3 (w : World) (c0 c1 c2 : Value) (t : TypeId) : (w.alloc (.cells #[c0, c1, c2] t)).cell? ⟨w.heap.size, 0, none⟩ = some c0 ∧ (w.alloc (.cells #[c0, c1, c2] t)).cell? ⟨w.heap.size, 1, none⟩ = some c1 ∧
    (w.alloc (.cells #[c0, c1, c2] t)).cell? ⟨w.heap.size, 2, none⟩ = some c2 := by
  have h : ∀ j u, [c0, c1, c2][j]? = some u → _ := elt_cells w [c0, c1, c2] t
  simp only [addr_add, Nat.zero_add] at h
  exact ⟨h 0 _ rfl, h 1 _ rfl, h 2 _ rfl⟩

theorem empty_any (x : Iln) (w : World) : Calls Try.prog 16 #[ilV x] w fun e w' => e = .returned (.bool (x.kd == 1 && x.txt == [])) ∧ Below w.heap.size w w' := by
  obtain ⟨k, d, s, u, t⟩ := x
  unfold ilV
  dsimp only
  obtain ⟨x0, x1, x2, x3, x4⟩ := box5 w (.int .i64 k) (.int .i64 d) (.string ⟨s.toArray⟩) (.string ⟨u.toArray⟩) (.string ⟨t.toArray⟩) 30
  have b0 : Below w.heap.size w (w.alloc (.cells #[.int .i64 k, .int .i64 d, .string ⟨s.toArray⟩, .string ⟨u.toArray⟩, .string ⟨t.toArray⟩] 30)) := (Below.refl _ w).alloc (Nat.le_refl _) _
  have HB := Lib.hid b0
  clear b0
  go_enter Try.func16, Try.ntmps16
  go_wp2
  all_goals (go_ret; refine ⟨ret_bool (by cases s <;> simp_all), (Below.refl _ w).alloc (Nat.le_refl _) _⟩)

theorem words_any (d : Int) (s : List UInt8) (w : World) : Calls Try.prog 18 #[.int .i64 d, .string ⟨s.toArray⟩] w fun e w' => e = .returned (ilV (wordsI d s)) ∧ Below w.heap.size w w' := by
  go_enter Try.func18, Try.ntmps18
  go_wp2
  refine bodyPost_ret (results_cell_row rfl _ _ _ 30 _ (0, 0) _ rfl (heap_alloc_new _ _) Try.underlying30 rfl (by kernel_rfl)) rfl ?_
  exact ⟨rfl, (Below.refl _ w).alloc (Nat.le_refl _) _⟩

theorem shown_any (x : Iln) (w : World) : Calls Try.prog 20 #[ilV x] w fun e w' => e = .returned (.string ⟨(ilText x).toArray⟩) ∧ Below w.heap.size w w' := by
  obtain ⟨k, d, s, u, t⟩ := x
  unfold ilV
  dsimp only
  obtain ⟨x0, x1, x2, x3, x4⟩ := box5 w (.int .i64 k) (.int .i64 d) (.string ⟨s.toArray⟩) (.string ⟨u.toArray⟩) (.string ⟨t.toArray⟩) 30
  have b0 : Below w.heap.size w (w.alloc (.cells #[.int .i64 k, .int .i64 d, .string ⟨s.toArray⟩, .string ⟨u.toArray⟩, .string ⟨t.toArray⟩] 30)) := (Below.refl _ w).alloc (Nat.le_refl _) _
  have HB := Lib.hid b0
  clear b0
  go_enter Try.func20, Try.ntmps20
  go_wp2
  all_goals (go_ret; refine ⟨?_, (Below.refl _ w).alloc (Nat.le_refl _) _⟩)
  all_goals (simp_all [ilText])

theorem kindOf_any (x : Itm) (lv : Value) (w : World) : Calls Try.prog 23 #[itV x lv] w fun e w' => e = .returned (kV x) ∧ Below w.heap.size w w' := by
  obtain ⟨sg, n, ff, op, cl, nd⟩ := x
  unfold itV kV kindV
  dsimp only
  obtain ⟨x0, x1, x2, x3, x4⟩ := box5 w (.int .u8 sg.toNat) (.int .i64 ff) (.bool op) (.bool cl) lv 26
  have b0 : Below w.heap.size w (w.alloc (.cells #[.int .u8 sg.toNat, .int .i64 ff, .bool op, .bool cl, lv] 26)) := (Below.refl _ w).alloc (Nat.le_refl _) _
  have HB := Lib.hid b0
  clear b0
  go_enter Try.func23, Try.ntmps23
  go_wp2
  all_goals refine bodyPost_ret (results_cell_row rfl _ _ _ 60 _ (0, 0) _ rfl (heap_alloc2_new _ _ _) Try.underlying60 rfl (by kernel_rfl)) rfl ?_
  all_goals exact ⟨by simp_all, ((Below.refl _ w).alloc (Nat.le_refl _) _).alloc (by simp) _⟩

def fitK (sg : UInt8) (b : Bool) (r : Int) (b2 : Bool) (r2 : Int) : Bool := !((b || b2) && (r + r2).tmod 3 == 0 && !(r == 0 && r2 == 0))
theorem fits_any (sg sg2 : UInt8) (b b2 : Bool) (r r2 : Int) (w : World) (h1 : -2 ≤ r ∧ r ≤ 2) (h2 : -2 ≤ r2 ∧ r2 ≤ 2) : Calls Try.prog 35 #[kindV sg b r, kindV sg2 b2 r2] w fun e w' => e = .returned (.bool (fitK sg b r b2 r2)) ∧ Below w.heap.size w w' := by
  unfold kindV
  have hw0 : wrap64 (r + r2) = r + r2 := by simp only [wrap64]; omega
  have hw1 : wrap64 r = r := by simp only [wrap64]; omega
  have hw2 : wrap64 r2 = r2 := by simp only [wrap64]; omega
  have HW := Lib.hid (And.intro hw0 (And.intro hw1 hw2))
  clear h1 h2
  go_enter Try.func35, Try.ntmps35
  go_wp2
  all_goals (go_ret; refine ⟨ret_bool (by simp_all [fitK]), ((Below.refl _ w).alloc (Nat.le_refl _) _).alloc (by simp) _⟩)

end Go.Proofs.Ytoomkhmmgjiniaa
