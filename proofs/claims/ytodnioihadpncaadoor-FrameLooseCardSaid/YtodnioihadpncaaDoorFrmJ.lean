/-
  FrameLoose: signs that close nothing, and such that open nothing, are lines like others; the law's walk.
-/
import Derived.Test.YtodnioihadpncaaDoorFrmI
namespace Go.Proofs.YtodnioihadpncaaDoor
open Go.RowKit
set_option linter.unusedSimpArgs false
set_option linter.unusedVariables false
set_option maxRecDepth 100000

def looseLs : List Txt := [[58,58,58],[58,58,58,123,125],[58,58,58,123,97,32,98,125],[32,58,58,58,123,97,125],[58,58,58,58],[58,58,58,123,97,125,120],[58,58,123,97,125],[58,58,58,123,97],[58,58,58,123,97,58,98,125],[58,58,58,123,97,124,98,125],[58,58,58,32,120]]
def looseT (j : Nat) : Txt := looseLs.getD j []
theorem loose_no : ∀ j, j < 11 → opensL (looseT j) = none ∧ (looseT j).length ≤ 10
  | 0, _ => by decide +kernel
  | 1, _ => by decide +kernel
  | 2, _ => by decide +kernel
  | 3, _ => by decide +kernel
  | 4, _ => by decide +kernel
  | 5, _ => by decide +kernel
  | 6, _ => by decide +kernel
  | 7, _ => by decide +kernel
  | 8, _ => by decide +kernel
  | 9, _ => by decide +kernel
  | 10, _ => by decide +kernel
  | n + 11, h => by omega
theorem loose_parse (s m : Txt) (h : opensL s = none) : parseL [s, 120 :: m] = [⟨0, false, [], false, [s, 120 :: m]⟩] := by
  have h2 : opensL (120 :: m) = none := by
    unfold opensL
    have : divB.isPrefixOf (120 :: m) = false := rfl
    rw [this]; rfl
  simp [parseL, parseF, stepP, h, h2, addLn]
theorem tmod_bd11 (a : Int) : -11 < a.tmod 11 ∧ a.tmod 11 < 11 := by
  rcases Int.le_total 0 a with h | h
  · rw [Int.tmod_eq_emod_of_nonneg h]; omega
  · have e := Int.neg_tmod (a := -a) (b := 11)
    rw [Int.neg_neg, Int.tmod_eq_emod_of_nonneg (a := -a) (by omega)] at e
    omega
theorem loose_index (a : Int) : ∃ j : Nat, j < 11 ∧ (wrap64 (a.tmod 11 + 11)).tmod 11 = (j : Int) := by
  have hb := tmod_bd11 a
  have e : wrap64 (a.tmod 11 + 11) = a.tmod 11 + 11 := by unfold wrap64; omega
  rw [e, Int.tmod_eq_emod_of_nonneg (by omega)]
  exact ⟨((a.tmod 11 + 11) % 11).toNat, by omega, by omega⟩
theorem loose_get (j : Nat) (hj : j < 11) : ([Value.string ⟨#[58, 58, 58]⟩, Value.string ⟨#[58, 58, 58, 123, 125]⟩, Value.string ⟨#[58, 58, 58, 123, 97, 32, 98, 125]⟩, Value.string ⟨#[32, 58, 58, 58, 123, 97, 125]⟩, Value.string ⟨#[58, 58, 58, 58]⟩, Value.string ⟨#[58, 58, 58, 123, 97, 125, 120]⟩, Value.string ⟨#[58, 58, 123, 97, 125]⟩, Value.string ⟨#[58, 58, 58, 123, 97]⟩, Value.string ⟨#[58, 58, 58, 123, 97, 58, 98, 125]⟩, Value.string ⟨#[58, 58, 58, 123, 97, 124, 98, 125]⟩, Value.string ⟨#[58, 58, 58, 32, 120]⟩] : List Value)[j]'hj = .string ⟨(looseT j).toArray⟩ := by
  have h : (strs looseLs)[j]? = some (.string ⟨(looseT j).toArray⟩) := by
    have hjl2 : j < looseLs.length := hj
    simp [strs, looseT, hjl2]
  exact (List.getElem?_eq_some_iff.1 h).2
theorem rowOf_lit2 (w : World) (o : Obj) (t : TypeId) (ls : List Txt) (hm : ls.length ≤ maxLen) : RowOf ((w.alloc o).alloc (.cells (strs ls).toArray t)) (some ⟨w.heap.size + 1, 0, none⟩) ls.length (strs ls) := by
  have h := rowOf_lit (w.alloc o) t (strs ls) (by rw [strs_length]; exact hm)
  rw [alloc_size, strs_length] at h
  exact h
def AnyRel (s : ByteArray) (w : World) (i : Value) (wr : World) : Prop := ∃ k : Nat, i = .int .i64 k ∧ k ≤ s.size ∧ wr = w

set_option maxHeartbeats 4000000 in
theorem frameLoose_short (w : World) (hml : MaxL w) (a0 : Int) (w0 : -9223372036854775808 ≤ a0 ∧ a0 ≤ 9223372036854775807) (a1 : ByteArray) (h40 : a1.size ≤ 30) :
    Calls Tryd.prog 5 #[.int .i64 a0, .string a1] w fun e w' => e = .returned (.bool true) ∧ Below w.heap.size w w' := by
  obtain ⟨k0, k1⟩ := w0
  obtain ⟨j, hj, hx⟩ := loose_index a0
  obtain ⟨hno, hjl⟩ := loose_no j hj
  have HX := Lib.hid hx
  have HML := Lib.hid hml
  clear hx hml
  go_enter Tryd.func5, Tryd.ntmps5
  go_wp2_with fail
  refine (alive6_any _ HML.out).mono ?_
  rintro e w1 ⟨rfl, b1⟩
  go_wp2_with fail
  go_loopw [5] (fun i wr => AnyRel a1 w1 i wr) (fun i _ => a1.size - (intOf i).toNat)
  case atStart => exact ⟨0, rfl, Nat.zero_le _, rfl⟩
  case round =>
    obtain ⟨k, rfl, hk, rfl⟩ := hrel
    by_cases hp : k < a1.size
    · by_cases h33 : a1[k].toNat < 33
      · have f1 : decide ((a1[k].toNat : Int) < 33) = true := by simp; omega
        clear h33
        go_wp2
        go_ret
        exact ⟨rfl, b1⟩
      · have f1 : decide ((a1[k].toNat : Int) < 33) = false := by simp; omega
        by_cases h127 : 127 ≤ a1[k].toNat
        · have f2 : decide ((127 : Int) ≤ a1[k].toNat) = true := by simp; omega
          clear h33 h127
          go_wp2
          go_ret
          exact ⟨rfl, b1⟩
        · have f2 : decide ((127 : Int) ≤ a1[k].toNat) = false := by simp; omega
          by_cases h125 : a1[k].toNat = 125
          · have f3 : ((a1[k].toNat : Int) == 125) = true := by simp; omega
            clear h33 h127 h125
            go_wp2
            go_ret
            exact ⟨rfl, b1⟩
          · have f3 : ((a1[k].toNat : Int) == 125) = false := by simp; omega
            clear h33 h127 h125
            go_wp2
            exact ⟨⟨k + 1, by go_num, by omega, rfl⟩, by simp [intOf]; omega⟩
    · obtain rfl : k = a1.size := by omega
      have hx := HX.out
      have hget := loose_get j hj
      have hpl := loose_parse (looseT j) a1.data.toList hno
      have cp := fun A w5 hr => parse_any A 2 [looseT j, 120 :: a1.data.toList] w5 hr (by simp) (by
        intro y hy
        have : a1.data.toList.length = a1.size := by simp
        simp at hy
        rcases hy with rfl | rfl
        · omega
        · simp; omega)
      rw [hpl] at cp
      have hcat : (⟨#[120]⟩ : ByteArray) ++ a1 = ⟨(120 :: a1.data.toList).toArray⟩ := str_append [120] a1
      generalize looseT j = L at *
      have HC := Lib.hid cp
      clear cp hpl hno
      have hb2 : ∀ o o2, Below wr.heap.size wr ((wr.alloc o).alloc o2) := fun o o2 => ((Below.refl _ wr).alloc (Nat.le_refl _) o).alloc (by rw [alloc_size]; omega) o2
      go_wp2_with fail
      clear hget hx
      refine (HC.out _ _ (rowOf_lit2 wr _ 9 [L, 120 :: a1.data.toList] (by unfold maxLen; simp))).mono ?_
      rintro e w2 ⟨v, X, rfl, hO, hX, b2⟩
      have HB := Lib.hid (b1.then ((hb2 _ _).trans (b2.mono (by rw [alloc_size, alloc_size]; omega))))
      have hXl : X.length = 1 := by have := congrArg List.length hX; simpa using this
      obtain ⟨g, cap, cur, rfl, _, hlt, hnc, hcm, _, _⟩ := own_block hO.row (by omega)
      obtain ⟨_, p1, _, _, lv, p4, hL⟩ := own_part hO (k := 0) (p := ⟨0, false, [], false, [L, 120 :: a1.data.toList]⟩) (by rw [hX]; rfl)
      obtain ⟨g2, cap2, cur2, rfl, _, hlt2, hnc2, hcm2, _, hq⟩ := own_block hL (by show 0 < 2; omega)
      have q0 := hq 0 (.string ⟨L.toArray⟩) rfl
      rw [hXl] at hnc ⊢
      simp only [Nat.zero_mul, Nat.zero_add] at p1 p4
      have hnc2' : 2 ≤ cap2 := hnc2
      have p4' : w2.cell? ⟨g, 4, none⟩ = some (.slice (some ⟨g2, 0, none⟩) 2 cap2) := p4
      unfold maxLen at hcm hcm2
      clear hO hX hXl hL hq hnc2 p4 b2 hb2
      go_wp2
      go_ret
      exact ⟨rfl, HB.out⟩

theorem frameLoose_walk (w : World) (hml : MaxL w) (a0 : Int) (w0 : (Lit.int .i64 a0).wf = true) (a1 : ByteArray) (w1 : a1.size ≤ maxLen) :
    Calls Tryd.prog 5 #[.int .i64 a0, .string a1] w fun e w' => e = .returned (.bool true) ∧ Below w.heap.size w w' := by
  unfold maxLen at w1
  have hw0 : -9223372036854775808 ≤ a0 ∧ a0 ≤ 9223372036854775807 := by simpa [Lit.wf, IntKind.min, IntKind.max, IntKind.signed, IntKind.bits] using w0
  by_cases h : a1.size ≤ 30
  · exact frameLoose_short w hml a0 hw0 a1 h
  · have HN := Lib.hid hml
    clear hml w0 hw0
    go_enter Tryd.func5, Tryd.ntmps5
    go_wp2_with (go_at_call 12; refine (alive6_any _ HN.out).mono ?_; rintro e w3 ⟨rfl, b2⟩)
    go_ret
    exact ⟨rfl, b2⟩

end Go.Proofs.YtodnioihadpncaaDoor
