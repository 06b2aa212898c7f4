/-
  SpansBack: pieces that are set side by side are found as they were; the law's walk.
-/
import Derived.Test.YtodnioihadpncaaDoorSpnE
namespace Go.Proofs.YtodnioihadpncaaDoor
open Go.RowKit
set_option linter.unusedSimpArgs false
set_option linter.unusedVariables false
set_option maxRecDepth 100000

def bkPc (ts lb : List Txt) (i : Nat) : Pc := if i % 2 = 1 then ⟨true, lb.getD (i % lb.length) [], ts.getD i []⟩ else ⟨false, [], ts.getD i []⟩
def bkP (ts lb : List Txt) (k : Nat) : List Pc := (List.range k).map (bkPc ts lb)
theorem bkP_succ (ts lb : List Txt) (k : Nat) : bkP ts lb (k + 1) = bkP ts lb k ++ [bkPc ts lb k] := by unfold bkP; rw [List.range_succ, List.map_append]; rfl
theorem bkP_length (ts lb : List Txt) (k : Nat) : (bkP ts lb k).length = k := by simp [bkP]
structure BkOk (ts lb : List Txt) (i : Nat) : Prop where
  t0 : ts.getD i [] ≠ []
  t40 : (ts.getD i []).length ≤ 40
  ts : ∀ b ∈ ts.getD i [], b ≠ 123 ∧ b ≠ 124 ∧ b ≠ 125
  l40 : (lb.getD (i % lb.length) []).length ≤ 40
  lab : isLab (lb.getD (i % lb.length) []) = true
theorem bk_turn (ts lb : List Txt) : ∀ (k s : Nat), (∀ i, s ≤ i → i < s + k → BkOk ts lb i) → turnPc (decide (s % 2 = 1)) ((List.range' s k).map (bkPc ts lb))
  | 0, s, _ => trivial
  | k + 1, s, h => by
    have h0 := h s (Nat.le_refl _) (by omega)
    rw [List.range'_succ, List.map_cons]
    have ih := bk_turn ts lb k (s + 1) (fun i h1 h2 => h i (by omega) (by omega))
    by_cases hp : s % 2 = 1
    · have e : decide (s % 2 = 1) = true := decide_eq_true hp
      have e2 : decide ((s + 1) % 2 = 1) = !true := by simp; omega
      rw [e2] at ih
      rw [e]
      refine ⟨by unfold bkPc; rw [if_pos hp], ?_, ih⟩
      unfold bkPc
      rw [if_pos hp, if_pos rfl]
      exact ⟨h0.lab, fun b hb => (h0.ts b hb).2.1⟩
    · have e : decide (s % 2 = 1) = false := decide_eq_false hp
      have e2 : decide ((s + 1) % 2 = 1) = !false := by simp; omega
      rw [e2] at ih
      rw [e]
      refine ⟨by unfold bkPc; rw [if_neg hp], ?_, ih⟩
      unfold bkPc
      rw [if_neg hp, if_neg (by simp)]
      exact ⟨rfl, h0.t0, fun b hb => (h0.ts b hb).1⟩
theorem bk_spans (ts lb : List Txt) (n : Nat) (h : ∀ i, i < n → BkOk ts lb i) : spansL (unspanL (bkP ts lb n)) = bkP ts lb n := by
  have ht := bk_turn ts lb n 0 (fun i _ h2 => h i (by omega))
  unfold spansL
  have e : bkP ts lb n = (List.range' 0 n).map (bkPc ts lb) := by unfold bkP; rw [List.range_eq_range']
  rw [e]
  exact (spans_turn _).2 ht
theorem bk_len (ts lb : List Txt) : ∀ n, (∀ i, i < n → BkOk ts lb i) → (unspanL (bkP ts lb n)).length ≤ 85 * n
  | 0, _ => by simp [bkP, unspanL]
  | n + 1, h => by
    have ih := bk_len ts lb n (fun i hi => h i (by omega))
    have h0 := h n (by omega)
    have h1 := h0.t40
    have h2 := h0.l40
    rw [bkP_succ]
    unfold unspanL at ih ⊢
    rw [List.flatMap_append, List.flatMap_singleton, List.length_append]
    have : (pcTxt (bkPc ts lb n)).length ≤ 85 := by
      unfold bkPc
      split
      · have e := spanTxt_len (lb.getD (n % lb.length) []) (ts.getD n [])
        show (spanTxt (lb.getD (n % lb.length) []) (ts.getD n [])).length ≤ 85
        rw [e]
        exact Nat.le_trans (Nat.add_le_add_right (Nat.add_le_add h2 h1) 5) (by decide)
      · show (ts.getD n []).length ≤ 85
        exact Nat.le_trans h1 (by decide)
    omega

theorem news2 (w : World) (o : Obj) (l : List Value) (t : TypeId) : ∀ (j : Nat) (u : Value), l[j]? = some u → ((w.alloc o).alloc (.cells l.toArray t)).cell? ((⟨w.heap.size + 1, 0, none⟩ : Addr).add j) = some u := by
  intro j u hj
  have h := heap_alloc_new (w.alloc o) (.cells l.toArray t)
  rw [alloc_size] at h
  rw [addr_add, cell_of_row _ _ _ _ t (0, 0) h, Nat.zero_add]
  simpa using hj
def SbRel (n : Nat) (w : World) (i : Value) (wr : World) : Prop := ∃ k nd : Nat, i = .int .i64 k ∧ k ≤ n ∧ wr = w.drewN nd
def BkRel (ts lb : List Txt) (w : World) (v i : Value) (wr : World) : Prop :=
  ∃ k : Nat, i = .int .i64 k ∧ k ≤ ts.length ∧ wr.ownsRow w.heap.size 38 3 v k (pcsC (bkP ts lb k)) ∧ Below w.heap.size w wr ∧ (∀ j, j < k → BkOk ts lb j)
def BkSg (X : ByteArray) (w : World) (i : Value) (wr : World) : Prop := ∃ k : Nat, i = .int .i64 k ∧ k ≤ X.size ∧ (∀ m (h : m < X.size), m < k → X[m].toNat ≠ 123 ∧ X[m].toNat ≠ 124 ∧ X[m].toNat ≠ 125) ∧ wr = w
def BkLt (X : ByteArray) (w : World) (i : Value) (wr : World) : Prop := ∃ k : Nat, i = .int .i64 k ∧ k ≤ X.size ∧ (∀ m (h : m < X.size), m < k → 97 ≤ X[m].toNat ∧ X[m].toNat ≤ 122) ∧ wr = w

set_option maxHeartbeats 16000000 in
theorem spansBack_short (w : World) (hml : MaxL w) (A0 : Option Addr) (c0 : Nat) (ts : List Txt) (r0 : RowOf w A0 c0 (strs ts)) (A1 : Option Addr) (c1 : Nat) (lb : List Txt) (r1 : RowOf w A1 c1 (strs lb))
    (h12 : ts.length ≤ 12) (l1 : 1 ≤ lb.length) (l12 : lb.length ≤ 12) (zt : ∀ y ∈ ts, y.length ≤ 9223372036854775807) (zl : ∀ y ∈ lb, y.length ≤ 9223372036854775807) :
    Calls Tryd.prog 10 #[.slice A0 ts.length c0, .slice A1 lb.length c1] w fun e w' => e = .returned (.bool true) ∧ Below w.heap.size w w' := by
  obtain ⟨i0, hi, hz0, hz1, hz2⟩ := info_parts infoPiece
  have hc0 := r0.1
  have hc0m := r0.2.1
  have hc1 := r1.1
  have hc1m := r1.2.1
  rw [strs_length] at hc0 hc1
  unfold maxLen at hc0m hc1m
  have fl0 : ((lb.length : Int) == 0) = false := by rw [beq_eq_false_iff_ne]; omega
  have HML := Lib.hid hml
  have ZT := Lib.hid zt
  have ZL := Lib.hid zl
  clear hml zt zl
  go_enter Tryd.func10, Tryd.ntmps10
  go_wp2_with fail
  refine (alive6_any _ HML.out).mono ?_
  rintro e w1 ⟨rfl, b1⟩
  have r01 := r0.below b1
  have r11 := r1.below b1
  go_wp2_with fail
  go_loopw [5, 34] (fun v i wr => BkRel ts lb w1 v i wr) (fun _ i _ => ts.length - (intOf i).toNat)
  case atStart => exact ⟨0, rfl, Nat.zero_le _, World.ownsRow_nil _ _ _ _, Below.refl _ _, fun j hj => absurd hj (Nat.not_lt_zero _)⟩
  case round =>
    obtain ⟨k, rfl, hk, hown, hbw, hok⟩ := hrel
    rename World => wB
    have HOk := Lib.hid hok
    clear hok
    by_cases hp : k < ts.length
    · have hkm : k % lb.length < lb.length := Nat.mod_lt _ (by omega)
      obtain ⟨b, off, e0, hb, hcX⟩ := (r01.below hbw).cellAt hp
      obtain ⟨b', off', e1, hb', hcL⟩ := (r11.below hbw).cellAt hkm
      have hXz := ZT.out ts[k] (List.getElem_mem hp)
      have hLz := ZL.out lb[k % lb.length] (List.getElem_mem hkm)
      have hXd : ts.getD k [] = ts[k] := by rw [List.getD_eq_getElem?_getD, List.getElem?_eq_getElem hp]; rfl
      have hLd : lb.getD (k % lb.length) [] = lb[k % lb.length] := by rw [List.getD_eq_getElem?_getD, List.getElem?_eq_getElem hkm]; rfl
      have hrem : ((k : Int).tmod (lb.length : Int)) = ((k % lb.length : Nat) : Int) := by rw [Int.tmod_eq_emod_of_nonneg (by omega)]; rfl
      rw [← str_size] at hXz hLz
      have hXl : (⟨ts[k].toArray⟩ : ByteArray).data.toList = ts.getD k [] := by rw [hXd]
      have hLl : (⟨lb[k % lb.length].toArray⟩ : ByteArray).data.toList = lb.getD (k % lb.length) [] := by rw [hLd]
      generalize (⟨ts[k].toArray⟩ : ByteArray) = X at *
      generalize (⟨lb[k % lb.length].toArray⟩ : ByteArray) = L at *
      have HXl := Lib.hid hXl
      have HLl := Lib.hid hLl
      subst e0 e1
      clear hXd hLd hXl hLl
      by_cases hx0 : X.size = 0
      · have hXe : X.data.toList = [] := List.eq_nil_of_length_eq_zero (by simpa using hx0)
        have fe : (@BEq.beq (List UInt8) (@List.instBEq UInt8 (@instBEqOfDecidableEq UInt8 instDecidableEqUInt8)) X.toList []) = true := by rw [ByteArray.toList_eq, hXe]; rfl
        clear hx0 hXe
        go_wp2
        go_ret
        exact ⟨rfl, b1.then hbw⟩
      have hXne : X.data.toList ≠ [] := fun e => by have h2 := congrArg List.length e; have h3 : X.data.toList.length = X.size := by simp
                                                    rw [h3, List.length_nil] at h2; exact hx0 h2
      have fe : (@BEq.beq (List UInt8) (@List.instBEq UInt8 (@instBEqOfDecidableEq UInt8 instDecidableEqUInt8)) X.toList []) = false := by rw [ByteArray.toList_eq]; simpa using hXne
      by_cases hx40 : 40 < X.size
      · clear hx0 hXne
        go_wp2
        go_ret
        exact ⟨rfl, b1.then hbw⟩
      have hx40' : X.size ≤ 40 := by omega
      by_cases hl0 : L.size = 0
      · have hLe : L.data.toList = [] := List.eq_nil_of_length_eq_zero (by simpa using hl0)
        have fl : (@BEq.beq (List UInt8) (@List.instBEq UInt8 (@instBEqOfDecidableEq UInt8 instDecidableEqUInt8)) L.toList []) = true := by rw [ByteArray.toList_eq, hLe]; rfl
        clear hx0 hl0 hLe hXne hx40
        go_wp2
        go_ret
        exact ⟨rfl, b1.then hbw⟩
      have hLne : L.data.toList ≠ [] := fun e => by have h2 := congrArg List.length e; have h3 : L.data.toList.length = L.size := by simp
                                                    rw [h3, List.length_nil] at h2; exact hl0 h2
      have fl : (@BEq.beq (List UInt8) (@List.instBEq UInt8 (@instBEqOfDecidableEq UInt8 instDecidableEqUInt8)) L.toList []) = false := by rw [ByteArray.toList_eq]; simpa using hLne
      have HXne := Lib.hid hXne
      clear hXne hLne
      by_cases hl40 : 40 < L.size
      · clear hx0 hl0 hx40
        go_wp2
        go_ret
        exact ⟨rfl, b1.then hbw⟩
      have hl40' : L.size ≤ 40 := by omega
      have hl1' : 1 ≤ L.size := by omega
      clear hx0 hl0 hx40 hl40
      go_wp2_with fail
      go_loopw [9] (fun i wr => BkSg X wB i wr) (fun i _ => X.size - (intOf i).toNat)
      case atStart => exact ⟨0, rfl, Nat.zero_le _, fun m _ hm => absurd hm (Nat.not_lt_zero _), rfl⟩
      case round =>
        obtain ⟨m, rfl, hm, hby, hwe⟩ := hrel
        have hwe := hwe.symm
        subst hwe
        have HBy := Lib.hid hby
        clear hby
        by_cases hp : m < X.size
        · by_cases h123 : X[m].toNat = 123
          · have f1 : ((X[m].toNat : Int) == 123) = true := by simp; omega
            clear h123
            go_wp2
            go_ret
            exact ⟨rfl, b1.then hbw⟩
          have f1 : ((X[m].toNat : Int) == 123) = false := by simp; omega
          by_cases h124 : X[m].toNat = 124
          · have f2 : ((X[m].toNat : Int) == 124) = true := by simp; omega
            clear h123 h124
            go_wp2
            go_ret
            exact ⟨rfl, b1.then hbw⟩
          have f2 : ((X[m].toNat : Int) == 124) = false := by simp; omega
          by_cases h125 : X[m].toNat = 125
          · have f3 : ((X[m].toNat : Int) == 125) = true := by simp; omega
            clear h123 h124 h125
            go_wp2
            go_ret
            exact ⟨rfl, b1.then hbw⟩
          have f3 : ((X[m].toNat : Int) == 125) = false := by simp; omega
          have HL := Lib.hid (show X[m].toNat ≠ 123 ∧ X[m].toNat ≠ 124 ∧ X[m].toNat ≠ 125 from ⟨h123, h124, h125⟩)
          clear h123 h124 h125
          go_wp2
          refine ⟨⟨m + 1, by go_num, by omega, fun q hq hq2 => ?_, rfl⟩, by simp [intOf]; omega⟩
          by_cases e : q = m
          · subst e; exact HL.out
          · exact HBy.out q hq (by omega)
        · obtain rfl : m = X.size := by omega
          have hno : NoSigns X := fun q hq => HBy.out q hq hq
          have HNo := Lib.hid hno.all
          clear hno
          go_wp2_with fail
          go_loopw [10] (fun i wr => BkLt L wB i wr) (fun i _ => L.size - (intOf i).toNat)
          case atStart => exact ⟨0, rfl, Nat.zero_le _, fun m _ hm => absurd hm (Nat.not_lt_zero _), rfl⟩
          case round =>
            obtain ⟨m, rfl, hm, hby, hwe⟩ := hrel
            have hwe := hwe.symm
            subst hwe
            have HBy2 := Lib.hid hby
            clear hby
            by_cases hp : m < L.size
            · by_cases h97 : L[m].toNat < 97
              · have f1 : decide ((L[m].toNat : Int) < 97) = true := by simp; omega
                clear h97
                go_wp2
                go_ret
                exact ⟨rfl, b1.then hbw⟩
              · have f1 : decide ((L[m].toNat : Int) < 97) = false := by simp; omega
                by_cases h122 : 122 < L[m].toNat
                · have f2 : decide ((122 : Int) < L[m].toNat) = true := by simp; omega
                  clear h97 h122
                  go_wp2
                  go_ret
                  exact ⟨rfl, b1.then hbw⟩
                · have f2 : decide ((122 : Int) < L[m].toNat) = false := by simp; omega
                  have HL := Lib.hid (show 97 ≤ L[m].toNat ∧ L[m].toNat ≤ 122 from by omega)
                  clear h97 h122
                  go_wp2
                  refine ⟨⟨m + 1, by go_num, by omega, fun q hq hq2 => ?_, rfl⟩, by simp [intOf]; omega⟩
                  by_cases e : q = m
                  · subst e; exact HL.out
                  · exact HBy2.out q hq (by omega)
            · obtain rfl : m = L.size := by omega
              have hlt : Letters L := fun q hq => HBy2.out q hq hq
              have hlab := hlt.lab hl1' hl40'
              have hOkk : BkOk ts lb k := by
                have h3 : X.data.toList.length = X.size := by simp
                have h4 : L.data.toList.length = L.size := by simp
                rw [HXl.out] at h3
                rw [HLl.out] at h4
                refine ⟨?_, by omega, ?_, by omega, ?_⟩
                · rw [← HXl.out]; exact HXne.out
                · rw [← HXl.out]; exact HNo.out
                · rw [← HLl.out]; exact hlab
              have HOkk := Lib.hid hOkk
              clear hlt hlab hOkk HBy2
              by_cases hodd : k % 2 = 1
              · have f2 : (((k : Int).tmod 2) == 1) = true := by
                  rw [Int.tmod_eq_emod_of_nonneg (by omega)]; simp; omega
                have HP := Lib.hid (show pcsC (bkP ts lb k) ++ [.bool true, .string L, .string X] = pcsC (bkP ts lb (k + 1)) from by
                  rw [bkP_succ, pcsC_append, pcsC_one]
                  unfold bkPc
                  rw [if_pos hodd, ← HXl.out, ← HLl.out]
                  unfold pcC
                  rw [show (⟨X.data.toList.toArray⟩ : ByteArray) = X from Lib.mk_data X, show (⟨L.data.toList.toArray⟩ : ByteArray) = L from Lib.mk_data L])
                have ho2 := (hown.alloc (.cells #[.bool true, .string L, .string X] 38)).alloc (.cells #[.bool true, .string L, .string X] 38)
                have hn2 := news2 wB (.cells #[.bool true, .string L, .string X] 38) [.bool true, .string L, .string X] 38
                have hsB := hbw.size
                have hs2 := alloc_size wB (.cells #[.bool true, .string L, .string X] 38)
                have hs3 := alloc_size (wB.alloc (.cells #[.bool true, .string L, .string X] 38)) (.cells #[.bool true, .string L, .string X] 38)
                go_wp2_with (at_builtin; refine wpList_append_own _ rfl _ _ 35 rfl w1.heap.size 38 i0 (.agg #[.bool false, .string ByteArray.empty, .string ByteArray.empty]) 3 40 Tryd.underlying35 hi hz0 hz1 hz2 rfl (by decide) _ _ _ rfl ho2 ⟨wB.heap.size + 1, 0, none⟩ 1 1 [.bool true, .string L, .string X] rfl rfl hn2 (by simp [Value.oneCell']) (by unfold maxLen; omega) (by omega) (by simp; omega) ?_)
                intro v7 w7 hown' hgrow _
                rw [HP.out] at hown'
                have hs7 := hgrow.size
                have hbw7 := ((hbw.alloc (by omega) (.cells #[.bool true, .string L, .string X] 38)).alloc (by omega) (.cells #[.bool true, .string L, .string X] 38)).trans (below_of_grown (B := w1.heap.size) hgrow (fun g hg => (ho2.lt g hg).1) (by omega))
                have HO7 := Lib.hid hown'
                have HB7 := Lib.hid hbw7
                clear hown' hgrow hbw7 ho2 hn2 hown
                go_wp2
                go_roundw
                case rel =>
                  refine ⟨k + 1, by go_num, by omega, HO7.out, HB7.out, fun j hj => ?_⟩
                  by_cases e : j = k
                  · subst e; exact HOkk.out
                  · exact HOk.out j (by omega)
                case measure => simp [intOf]; omega
              · have f2 : (((k : Int).tmod 2) == 1) = false := by
                  rw [Int.tmod_eq_emod_of_nonneg (by omega), beq_eq_false_iff_ne]; omega
                have HP := Lib.hid (show pcsC (bkP ts lb k) ++ [.bool false, .string ⟨#[]⟩, .string X] = pcsC (bkP ts lb (k + 1)) from by
                  rw [bkP_succ, pcsC_append, pcsC_one]
                  unfold bkPc
                  rw [if_neg hodd, ← HXl.out]
                  unfold pcC
                  rw [show (⟨X.data.toList.toArray⟩ : ByteArray) = X from Lib.mk_data X])
                have ho2 := (hown.alloc (.cells #[.bool false, .string ⟨#[]⟩, .string X] 38)).alloc (.cells #[.bool false, .string ⟨#[]⟩, .string X] 38)
                have hn2 := news2 wB (.cells #[.bool false, .string ⟨#[]⟩, .string X] 38) [.bool false, .string ⟨#[]⟩, .string X] 38
                have hsB := hbw.size
                have hs2 := alloc_size wB (.cells #[.bool false, .string ⟨#[]⟩, .string X] 38)
                have hs3 := alloc_size (wB.alloc (.cells #[.bool false, .string ⟨#[]⟩, .string X] 38)) (.cells #[.bool false, .string ⟨#[]⟩, .string X] 38)
                go_wp2_with (at_builtin; refine wpList_append_own _ rfl _ _ 35 rfl w1.heap.size 38 i0 (.agg #[.bool false, .string ByteArray.empty, .string ByteArray.empty]) 3 40 Tryd.underlying35 hi hz0 hz1 hz2 rfl (by decide) _ _ _ rfl ho2 ⟨wB.heap.size + 1, 0, none⟩ 1 1 [.bool false, .string ⟨#[]⟩, .string X] rfl rfl hn2 (by simp [Value.oneCell']) (by unfold maxLen; omega) (by omega) (by simp; omega) ?_)
                intro v7 w7 hown' hgrow _
                rw [HP.out] at hown'
                have hs7 := hgrow.size
                have hbw7 := ((hbw.alloc (by omega) (.cells #[.bool false, .string ⟨#[]⟩, .string X] 38)).alloc (by omega) (.cells #[.bool false, .string ⟨#[]⟩, .string X] 38)).trans (below_of_grown (B := w1.heap.size) hgrow (fun g hg => (ho2.lt g hg).1) (by omega))
                have HO7 := Lib.hid hown'
                have HB7 := Lib.hid hbw7
                clear hown' hgrow hbw7 ho2 hn2 hown
                go_wp2
                go_roundw
                case rel =>
                  refine ⟨k + 1, by go_num, by omega, HO7.out, HB7.out, fun j hj => ?_⟩
                  by_cases e : j = k
                  · subst e; exact HOkk.out
                  · exact HOk.out j (by omega)
                case measure => simp [intOf]; omega
    · obtain rfl : k = ts.length := by omega
      have hsp := bk_spans ts lb ts.length HOk.out
      have hln := bk_len ts lb ts.length HOk.out
      have hPl := bkP_length ts lb ts.length
      generalize hQ : bkP ts lb ts.length = Q at *
      clear hQ HOk
      have hown0 : wB.ownsRow w1.heap.size 38 3 u5 Q.length (pcsC Q) := by rw [hPl]; exact hown
      obtain ⟨D1, cap1, e1, hat⟩ := PcAt.own hown0
      rw [hPl] at e1
      subst e1
      have cu := unspan_any D1 cap1 Q wB hat (by omega)
      rw [hPl] at cu
      have hml2 := (HML.out.below b1).below hbw
      have cs := fun w5 hm => spans_any ⟨(unspanL Q).toArray⟩ w5 (by rw [str_size]; omega) hm
      rw [show (⟨(unspanL Q).toArray⟩ : ByteArray).data.toList = unspanL Q from rfl, hsp] at cs
      have CS := Lib.hid cs
      have hnc1 := hat.le
      have hcm1 := hat.cap
      unfold maxLen at hcm1
      rw [hPl] at hnc1
      clear hown hown0 hsp
      go_wp2_with fail
      refine cu.mono ?_
      rintro e w5 ⟨rfl, b5⟩
      go_wp2_with fail
      refine (CS.out _ (hml2.below b5)).mono ?_
      rintro e w6 ⟨v6, rfl, ho6, b6⟩
      obtain ⟨D2, cap2, e2, hat2⟩ := PcAt.own ho6
      rw [hPl] at e2
      subst e2
      have hat1 := hat.below (b5.then b6)
      have HBB := Lib.hid ((b1.then hbw).then (b5.then b6))
      have hnc2 := hat2.le
      have hcm2 := hat2.cap
      unfold maxLen at hcm2
      rw [hPl] at hnc2
      have HPl := Lib.hid hPl
      clear ho6 b5 b6 hml2 hbw hat hPl
      go_wp2_with fail
      go_loopw [123] (fun i wr => SbRel ts.length w6 i wr) (fun i _ => ts.length - (intOf i).toNat)
      case atStart => exact ⟨0, 0, rfl, Nat.zero_le _, rfl⟩
      case round =>
        obtain ⟨j, nd, rfl, hj, rfl⟩ := hrel
        by_cases hp7 : j < ts.length
        · have hjQ : j < Q.length := by rw [HPl.out]; exact hp7
          obtain ⟨d1, o1, rfl, _, x0, x1, x2⟩ := hat1.at hjQ
          obtain ⟨d2, o2, rfl, _, y0, y1, y2⟩ := hat2.at hjQ
          generalize Q[j].sp = sp at *
          generalize (⟨Q[j].lab.toArray⟩ : ByteArray) = la at *
          generalize (⟨Q[j].txt.toArray⟩ : ByteArray) = tx at *
          have hsame := fun W => piece_same W sp la tx
          go_wp2_with fail
          have hS : (w6.drewN nd).drew.cell? ⟨d1, o1 + j * 3, none⟩ = some (.bool sp) ∧ (w6.drewN nd).drew.cell? ⟨d1, o1 + j * 3 + 1, none⟩ = some (.string la) ∧ (w6.drewN nd).drew.cell? ⟨d1, o1 + j * 3 + 2, none⟩ = some (.string tx) ∧ (w6.drewN nd).drew.cell? ⟨d2, o2 + j * 3, none⟩ = some (.bool sp) ∧ (w6.drewN nd).drew.cell? ⟨d2, o2 + j * 3 + 1, none⟩ = some (.string la) ∧ (w6.drewN nd).drew.cell? ⟨d2, o2 + j * 3 + 2, none⟩ = some (.string tx) := ⟨x0, x1, x2, y0, y1, y2⟩
          refine wp_region_N (fun W => W.cell? ⟨d1, o1 + j * 3, none⟩ = some (.bool sp) ∧ W.cell? ⟨d1, o1 + j * 3 + 1, none⟩ = some (.string la) ∧ W.cell? ⟨d1, o1 + j * 3 + 2, none⟩ = some (.string tx) ∧ W.cell? ⟨d2, o2 + j * 3, none⟩ = some (.bool sp) ∧ W.cell? ⟨d2, o2 + j * 3 + 1, none⟩ = some (.string la) ∧ W.cell? ⟨d2, o2 + j * 3 + 2, none⟩ = some (.string tx)) (fun _ => true) (by kernel_rfl) ?_
          refine wpAnyN_take_at 0 126 (v := ?_) rfl rfl (by kernel_rfl) (by kernel_rfl) (by kernel_rfl) (by kernel_rfl) (by kernel_rfl) (fun _ _ _ h => h) (by rfl) ?_ hS ?_
          rotate_left
          · intro w hSw; (try dsimp only at hSw); obtain ⟨s1, s2, s3, s4, s5, s6⟩ := hSw; go_simp; (try with_reducible rfl)
          simp only [Act.put, List.setIfInBounds_toArray, List.set_cons_zero, List.set_cons_succ]
          refine wpAnyN_take_at 1 127 (v := ?_) rfl rfl (by kernel_rfl) (by kernel_rfl) (by kernel_rfl) (by kernel_rfl) (by kernel_rfl) (fun _ _ _ h => h) (by rfl) ?_ hS ?_
          rotate_left
          · intro w hSw; (try dsimp only at hSw); obtain ⟨s1, s2, s3, s4, s5, s6⟩ := hSw; go_simp; (try with_reducible rfl)
          simp only [Act.put, List.setIfInBounds_toArray, List.set_cons_zero, List.set_cons_succ]
          refine wpAnyN_take_at 2 128 (v := ?_) rfl rfl (by kernel_rfl) (by kernel_rfl) (by kernel_rfl) (by kernel_rfl) (by kernel_rfl) (fun _ _ _ h => h) (by rfl) ?_ hS ?_
          rotate_left
          · intro w hSw; (try dsimp only at hSw); obtain ⟨s1, s2, s3, s4, s5, s6⟩ := hSw; go_simp; (try with_reducible rfl)
          simp only [Act.put, List.setIfInBounds_toArray, List.set_cons_zero, List.set_cons_succ]
          refine wpAnyN_take_at 3 129 (v := ?_) rfl rfl (by kernel_rfl) (by kernel_rfl) (by kernel_rfl) (by kernel_rfl) (by kernel_rfl) (fun _ _ _ h => h) (by rfl) ?_ hS ?_
          rotate_left
          · intro w hSw; (try dsimp only at hSw); obtain ⟨s1, s2, s3, s4, s5, s6⟩ := hSw; go_simp; (try with_reducible rfl)
          simp only [Act.put, List.setIfInBounds_toArray, List.set_cons_zero, List.set_cons_succ]
          refine wpAnyN_take_at 4 130 (v := ?_) rfl rfl (by kernel_rfl) (by kernel_rfl) (by kernel_rfl) (by kernel_rfl) (by kernel_rfl) (fun _ _ _ h => h) (by rfl) ?_ hS ?_
          rotate_left
          · intro w hSw; (try dsimp only at hSw); obtain ⟨s1, s2, s3, s4, s5, s6⟩ := hSw; go_simp; (try with_reducible rfl)
          simp only [Act.put, List.setIfInBounds_toArray, List.set_cons_zero, List.set_cons_succ]
          refine wpAnyN_take_at 5 131 (v := ?_) rfl rfl (by kernel_rfl) (by kernel_rfl) (by kernel_rfl) (by kernel_rfl) (by kernel_rfl) (fun _ _ _ h => h) (by rfl) ?_ hS ?_
          rotate_left
          · intro w hSw; (try dsimp only at hSw); obtain ⟨s1, s2, s3, s4, s5, s6⟩ := hSw; go_simp; (try with_reducible rfl)
          simp only [Act.put, List.setIfInBounds_toArray, List.set_cons_zero, List.set_cons_succ]
          refine wpAnyN_take_at 6 132 (v := ?_) rfl rfl (by kernel_rfl) (by kernel_rfl) (by kernel_rfl) (by kernel_rfl) (by kernel_rfl) (fun _ _ _ h => h) (by rfl) ?_ hS ?_
          rotate_left
          · intro w hSw; (try dsimp only at hSw); obtain ⟨s1, s2, s3, s4, s5, s6⟩ := hSw; go_simp; (try with_reducible rfl)
          simp only [Act.put, List.setIfInBounds_toArray, List.set_cons_zero, List.set_cons_succ]
          refine wpAnyN_take_at 7 133 (v := ?_) rfl rfl (by kernel_rfl) (by kernel_rfl) (by kernel_rfl) (by kernel_rfl) (by kernel_rfl) (fun _ _ _ h => h) (by rfl) ?_ hS ?_
          rotate_left
          · intro w hSw; (try dsimp only at hSw); obtain ⟨s1, s2, s3, s4, s5, s6⟩ := hSw; go_simp; (try with_reducible rfl)
          simp only [Act.put, List.setIfInBounds_toArray, List.set_cons_zero, List.set_cons_succ]
          refine wpAnyN_take_at 8 134 (v := ?_) rfl rfl (by kernel_rfl) (by kernel_rfl) (by kernel_rfl) (by kernel_rfl) (by kernel_rfl) (fun _ _ _ h => h) (by rfl) ?_ hS ?_
          rotate_left
          · intro w hSw; (try dsimp only at hSw); obtain ⟨s1, s2, s3, s4, s5, s6⟩ := hSw; go_simp; (try with_reducible rfl)
          simp only [Act.put, List.setIfInBounds_toArray, List.set_cons_zero, List.set_cons_succ]
          refine wpAnyN_rest 9 [] rfl (by kernel_rfl) (by kernel_rfl) ?_
          clear hS
          go_wp2
          go_roundw
          case rel => exact ⟨j + 1, nd + 1, by go_num, by omega, rfl⟩
          case measure => simp [intOf]; omega
        · obtain rfl : j = ts.length := by omega
          go_wp2
          go_ret
          exact ⟨rfl, below_drewN' HBB.out nd⟩

theorem spansBack_walk (w : World) (hml : MaxL w) (A0 : Option Addr) (c0 : Nat) (z0 : List ByteArray) (r0 : RowOf w A0 c0 (z0.map Value.string)) (w0 : ∀ s ∈ z0, s.size ≤ maxLen) (A1 : Option Addr) (c1 : Nat) (z1 : List ByteArray) (r1 : RowOf w A1 c1 (z1.map Value.string)) (w1 : ∀ s ∈ z1, s.size ≤ maxLen) :
    Calls Tryd.prog 10 #[.slice A0 z0.length c0, .slice A1 z1.length c1] w fun e w' => e = .returned (.bool true) ∧ Below w.heap.size w w' := by
  have q0 := r0.1
  have q0m := r0.2.1
  have q1 := r1.1
  have q1m := r1.2.1
  unfold maxLen at w0 w1 q0m q1m
  rw [List.length_map] at q0 q1
  have hz : ∀ z : List ByteArray, (∀ s ∈ z, s.size ≤ 9223372036854775807) → ∀ y ∈ (z.map fun s => s.data.toList), y.length ≤ 9223372036854775807 := by
    intro z hz y hy
    obtain ⟨s, hs, rfl⟩ := List.mem_map.1 hy
    have := hz s hs
    have h2 : s.data.toList.length = s.size := by simp
    omega
  by_cases h : z0.length ≤ 12 ∧ 1 ≤ z1.length ∧ z1.length ≤ 12
  · rw [strs_of] at r0 r1
    have := spansBack_short w hml A0 c0 (z0.map fun s => s.data.toList) r0 A1 c1 (z1.map fun s => s.data.toList) r1 (by simpa using h.1) (by simpa using h.2.1) (by simpa using h.2.2) (hz z0 w0) (hz z1 w1)
    simpa using this
  · have HN := Lib.hid hml
    have hor : 12 < z0.length ∨ z1.length = 0 ∨ 12 < z1.length := by omega
    clear hml w0 w1 h r0 r1 hz
    rcases hor with h | h | h
    · go_enter Tryd.func10, Tryd.ntmps10
      go_wp2_with (go_at_call 12; refine (alive6_any _ HN.out).mono ?_; rintro e w3 ⟨rfl, b2⟩)
      all_goals go_ret
      all_goals exact ⟨rfl, b2⟩
    · rw [h]
      go_enter Tryd.func10, Tryd.ntmps10
      go_wp2_with (go_at_call 12; refine (alive6_any _ HN.out).mono ?_; rintro e w3 ⟨rfl, b2⟩)
      all_goals go_ret
      all_goals exact ⟨rfl, b2⟩
    · go_enter Tryd.func10, Tryd.ntmps10
      go_wp2_with (go_at_call 12; refine (alive6_any _ HN.out).mono ?_; rintro e w3 ⟨rfl, b2⟩)
      all_goals go_ret
      all_goals exact ⟨rfl, b2⟩

end Go.Proofs.YtodnioihadpncaaDoor
