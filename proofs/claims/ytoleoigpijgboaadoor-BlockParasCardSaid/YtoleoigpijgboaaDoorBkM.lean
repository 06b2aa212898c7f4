/-
  BlockParas: words, line by line, are one paragraph; a blank line parts two: the law's walk.
-/
import Derived.Test.YtoleoigpijgboaaDoorBkE
import Derived.Test.YtoleoigpijgboaaDoorBkH
import Derived.Test.YtoleoigpijgboaaDoorReg
namespace Go.Proofs.YtoleoigpijgboaaDoor
open Go.RowKit
set_option linter.unusedSimpArgs false
set_option linter.unusedVariables false
set_option maxRecDepth 100000

theorem join_snoc : ∀ (a : List (List UInt8)) (x : List UInt8), a ≠ [] → Lib.join (a ++ [x]) [10] = Lib.join a [10] ++ 10 :: x
  | [], x, h => absurd rfl h
  | [y], x, _ => by
    rw [List.singleton_append, join_two, Lib.join_one, Lib.join_one]
  | y :: z :: r, x, _ => by
    rw [List.cons_append, List.cons_append, join_two, ← List.cons_append, join_snoc (z :: r) x (by simp), join_two]
    simp
theorem parse_para (ls : List (List UInt8)) (hne : ls ≠ []) (h : ∀ x ∈ ls, Word x) : parseB ls = [⟨1, 0, 0, false, Lib.join ls [10], []⟩] := by
  cases ls with
  | nil => exact absurd rfl hne
  | cons x r =>
    have := parse_words x r [] (h x (by simp)) (fun y hy => h y (by simp [hy])) rfl
    rw [List.append_nil] at this
    exact this
theorem parse_mid (a b : List (List UInt8)) (ha : a ≠ []) (hb : b ≠ []) (h1 : ∀ x ∈ a, Word x) (h2 : ∀ x ∈ b, Word x) : parseB (a ++ [32] :: b) = [⟨1, 0, 0, false, Lib.join a [10], []⟩, ⟨1, 0, 0, false, Lib.join b [10], []⟩] := by
  cases a with
  | nil => exact absurd rfl ha
  | cons x r =>
    rw [List.cons_append, parse_words x r ([32] :: b) (h1 x (by simp)) (fun y hy => h1 y (by simp [hy])) (paraN_blank0 0 rfl b), parseB_blank (s := [32]) rfl, parse_para b hb h2]
theorem slice_to (b off len cap k : Nat) (h : k ≤ cap) (W : World) : (Instr.slice 22 (.slice (some ⟨b, off, none⟩) len cap) none (some (.int .i64 (k : Int))) none).run Tryd.prog W = .ok (.slice (some ⟨b, off, none⟩) k cap) W := by
  rw [run_slice_h W 22 (some ⟨b, off, none⟩) len cap (by kernel_rfl) .i64 (k : Int) (by omega) (by omega)]
  rw [show Tryd.prog.elem 22 = 9 from infoStr]
  go_simp
theorem slice_from (b off len cap k : Nat) (h : k < len) (hc : len ≤ cap) (W : World) : (Instr.slice 22 (.slice (some ⟨b, off, none⟩) len cap) (some (.int .i64 (k : Int))) none none).run Tryd.prog W = .ok (.slice (some ⟨b, off + k, none⟩) (len - k) (cap - k)) W := by
  rw [slice_low _ len cap k (by omega) W]
  unfold dropA
  rw [if_neg (by omega), Option.map_some, addr_add]
def TjRel (ls : List (List UInt8)) (w : World) (z i : Value) (wr : World) : Prop := ∃ (k : Nat) (U : ByteArray), i = .int .i64 k ∧ k ≤ ls.length ∧ z = .string U ∧ U.data.toList = Lib.join (ls.take k) [10] ∧ U.size ≤ 41 * k ∧ wr = w

set_option maxHeartbeats 8000000 in
theorem textJ_any (A : Option Addr) (cap : Nat) (ls : List (List UInt8)) (w : World) (hrow : RowOf w A cap (strs ls)) (h20 : ls.length ≤ 20) (h40 : ∀ x ∈ ls, x.length ≤ 40) :
    Calls Tryd.prog 21 #[.slice A ls.length cap] w fun e w' => e = .returned (.string ⟨(Lib.join ls [10]).toArray⟩) ∧ w' = w := by
  have hcl := hrow.strs_le
  have HZ := Lib.hid h40
  have HR := Lib.hid hrow
  clear h40 hrow
  go_enter Tryd.func21, Tryd.ntmps21
  go_wp2_with fail
  go_loopw [3, 8] (fun z i wr => TjRel ls w z i wr) (fun _ i _ => ls.length - (intOf i).toNat)
  case atStart => exact ⟨0, ⟨#[]⟩, rfl, Nat.zero_le _, rfl, rfl, Nat.le_refl _, rfl⟩
  case round =>
    obtain ⟨k, U, rfl, hk, rfl, hU, hUs, hwe⟩ := hrel
    have hwe := hwe.symm
    subst hwe
    by_cases hp : k < ls.length
    · obtain ⟨b9, off, hA, hb9, hcell⟩ := HR.out.cellAt hp
      have hsz := HZ.out _ (List.getElem_mem hp)
      have HTk := Lib.hid (List.take_succ_eq_append_getElem hp)
      generalize ls[k] = x at *
      obtain ⟨X, hX1, hX⟩ := text_of' x
      rw [hX1] at hcell
      have hXs : X.size = x.length := by rw [← hX]; simp
      have hXm : X.size ≤ 40 := by omega
      have HXL := Lib.hid hX
      have HU := Lib.hid hU
      subst hA
      clear hX1 hX hXs hsz hU
      have k1 := fun W => run_string_add_sum (P := Tryd.prog) W U (⟨#[10]⟩ : ByteArray) (by show _ + 1 ≤ _; omega)
      have k2 := fun W => run_string_add_sum (P := Tryd.prog) W U X (by omega)
      have k3 := fun W => run_string_add_sum (P := Tryd.prog) W (U ++ (⟨#[10]⟩ : ByteArray)) X (by rw [ByteArray.size_append]; show (_ + 1) + _ ≤ _; omega)
      have hs2 : (U ++ X).size = U.size + X.size := ByteArray.size_append
      have hs3 : ((U ++ (⟨#[10]⟩ : ByteArray)) ++ X).size = U.size + 1 + X.size := by rw [ByteArray.size_append, ByteArray.size_append]; rfl
      by_cases h0 : k = 0
      · subst h0
        rw [Nat.add_zero] at hcell
        have HU2 := Lib.hid (show (U ++ X).data.toList = Lib.join (ls.take (0 + 1)) [10] from by
          rw [HTk.out, ByteArray.data_append, Array.toList_append, HU.out, HXL.out, List.take_zero, List.nil_append, Lib.join_one]
          rfl)
        have HS2 := Lib.hid (show (U ++ X).size ≤ 41 * (0 + 1) by omega)
        clear hs2 hs3
        go_wp2
        first
          | (go_roundw
             case rel => exact ⟨0 + 1, _, by go_num, by omega, rfl, HU2.out, HS2.out, rfl⟩
             case measure => simp [intOf]; omega)
          | exact ⟨⟨0 + 1, _, by go_num, by omega, rfl, HU2.out, HS2.out, rfl⟩, by simp [intOf]; omega⟩
      · have h00 : 0 < k := by omega
        have f0 : decide ((0 : Int) < (k : Int)) = true := by simp; omega
        have HU2 := Lib.hid (show ((U ++ (⟨#[10]⟩ : ByteArray)) ++ X).data.toList = Lib.join (ls.take (k + 1)) [10] from by
          rw [HTk.out, join_snoc _ _ (fun e => by have := congrArg List.length e; rw [List.length_take, List.length_nil] at this; omega), ByteArray.data_append, Array.toList_append, ByteArray.data_append, Array.toList_append, HU.out, HXL.out]
          simp)
        have HS2 := Lib.hid (show ((U ++ (⟨#[10]⟩ : ByteArray)) ++ X).size ≤ 41 * (k + 1) by omega)
        clear hs2 hs3
        go_wp2
        first
          | (go_roundw
             case rel => exact ⟨k + 1, _, by go_num, by omega, rfl, HU2.out, HS2.out, rfl⟩
             case measure => simp [intOf]; omega)
          | exact ⟨⟨k + 1, _, by go_num, by omega, rfl, HU2.out, HS2.out, rfl⟩, by simp [intOf]; omega⟩
    · obtain rfl : k = ls.length := by omega
      rw [List.take_length] at hU
      go_wp2
      go_ret
      exact ⟨ret_string (text_is hU).symm, rfl⟩

/-! ### The walk -/

theorem RowOf.cellsAt {w : World} {ad : Addr} {cap : Nat} {xs : List Value} (h : RowOf w (some ad) cap xs) : ∀ j u, xs[j]? = some u → w.cell? (ad.add j) = some u := h.cells
theorem drop_row {w : World} {b off cap : Nat} {ls : List (List UInt8)} (h : RowOf w (some ⟨b, off, none⟩) cap (strs ls)) {k : Nat} (hk : k < ls.length) : RowOf w (some ⟨b, off + k, none⟩) (cap - k) (strs (ls.drop k)) := by
  have h1 := h.dropL (k := k) (by omega)
  have h2 := h.strs_le
  unfold dropA at h1
  rw [if_neg (by omega), Option.map_some, addr_add] at h1
  exact h1
theorem wp_append_strs {w : World} {o : Oper} {a : Act} {K : Act → World → Prop} {Q : Exit → Act → World → Prop} (s x : Operand) (ho : o.op = .call { callee := .builtin .append, args := #[s, x], argTypes := #[22, 22] }) (base : Nat) (v : Value) (n : Nat) (ls : List (List UInt8)) (hs : a.eval s = v)
    (hown : w.ownsRow base 9 1 v n (strs ls)) (ad : Addr) (c m : Nat) (more : List (List UInt8)) (hx : a.eval x = .slice (some ad) m c) (hm : more.length = m) (hc : ∀ j u, (strs more)[j]? = some u → w.cell? (ad.add j) = some u) (h63 : n + m ≤ 200000000000) (hbase : base ≤ w.heap.size)
    (h : ∀ v' w', w'.ownsRow base 9 1 v' (n + m) (strs (ls ++ more)) → w.grownBy w' v.ownBlock → K (a.put o.dst v') w') : o.wp Tryd.prog a w K Q := by
  obtain ⟨i0, hi, hz0, hz1, hz2⟩ := info_parts infoString
  refine wp_append_own w s x 22 ho base 9 i0 (.string ByteArray.empty) 1 16 Tryd.underlying22 hi hz0 hz1 hz2 rfl (by decide) v n (strs ls) hs hown ad m c (strs more) hx (by rw [strs_length, Nat.mul_one]; exact hm) hc (strs_one' more) (by unfold maxLen; omega) (by omega) hbase ?_
  intro v' w' h2 h3 _
  exact h v' w' (by rw [strs_append]; exact h2) h3
theorem paras_bd (a : Int) (n : Nat) (h : 0 < n) : -(n : Int) < a.tmod n ∧ a.tmod n < n := by
  by_cases h0 : 0 ≤ a
  · rw [Int.tmod_eq_emod_of_nonneg h0]
    have h1 := Int.emod_nonneg a (show (n : Int) ≠ 0 by omega)
    have h2 := Int.emod_lt_of_pos a (show (0 : Int) < n by omega)
    omega
  · have e := Int.neg_tmod (a := -a) (b := n)
    rw [Int.neg_neg, Int.tmod_eq_emod_of_nonneg (a := -a) (by omega)] at e
    have h1 := Int.emod_nonneg (-a) (show (n : Int) ≠ 0 by omega)
    have h2 := Int.emod_lt_of_pos (-a) (show (0 : Int) < n by omega)
    omega
theorem paras_index (a : Int) (n : Nat) (h1 : 1 ≤ n) (h20 : n ≤ 20) : ∃ j : Nat, j < n ∧ (wrap64 (a.tmod n + n)).tmod n = (j : Int) := by
  have hb := paras_bd a n (by omega)
  have e : wrap64 (a.tmod n + n) = a.tmod n + n := by unfold wrap64; omega
  rw [e, Int.tmod_eq_emod_of_nonneg (by omega)]
  have h3 := Int.emod_nonneg (a.tmod n + n) (show (n : Int) ≠ 0 by omega)
  have h4 := Int.emod_lt_of_pos (a.tmod n + n) (show (0 : Int) < n by omega)
  exact ⟨((a.tmod n + n) % n).toNat, by omega, by omega⟩
def WdRel (ls : List (List UInt8)) (w : World) (i : Value) (wr : World) : Prop := ∃ k : Nat, i = .int .i64 k ∧ k ≤ ls.length ∧ (∀ x ∈ ls.take k, Word x ∧ x.length ≤ 40) ∧ wr = w

set_option maxHeartbeats 16000000 in
theorem blockParas_short (w : World) (A : Option Addr) (cap : Nat) (ls : List (List UInt8)) (a1 : Int) (hrow : RowOf w A cap (strs ls)) (hz : ∀ x ∈ ls, x.length ≤ 9223372036854775807) (h1 : 1 ≤ ls.length) (h20 : ls.length ≤ 20) :
    Calls Tryd.prog 7 #[.slice A ls.length cap, .int .i64 a1] w fun e w' => e = .returned (.bool true) ∧ Below w.heap.size w w' := by
  have hcl := hrow.strs_le
  have hf0 : decide ((20 : Int) < (ls.length : Int)) = false := by simp; omega
  have hf00 : decide ((ls.length : Int) < 1) = false := by simp; omega
  obtain ⟨b9, off, hA, hb9, _⟩ := hrow.cellAt (k := 0) (by omega)
  subst hA
  have HZ := Lib.hid hz
  have HR := Lib.hid hrow
  clear hz hrow
  go_enter Tryd.func7, Tryd.ntmps7
  go_wp2_with fail
  refine (alive9_any _).mono ?_
  rintro e w1 ⟨rfl, b1⟩
  have HB1 := Lib.hid b1
  have HR1 := Lib.hid (HR.out.below b1)
  have hs1 := b1.size
  clear b1
  go_wp2_with fail
  go_loopw [27] (fun i wr => WdRel ls w1 i wr) (fun i _ => ls.length - (intOf i).toNat)
  case atStart => exact ⟨0, rfl, Nat.zero_le _, by simp, rfl⟩
  case round =>
    obtain ⟨k, rfl, hk, hall, hwe⟩ := hrel
    have hwe := hwe.symm
    subst hwe
    by_cases hp : k < ls.length
    · obtain ⟨b8, off8, hA, hb8, hcell⟩ := HR1.out.cellAt hp
      cases hA
      have hsz := HZ.out _ (List.getElem_mem hp)
      have HTk := Lib.hid (List.take_succ_eq_append_getElem hp)
      generalize ls[k] = x at *
      obtain ⟨X, hX1, hX⟩ := text_of' x
      rw [hX1] at hcell
      have hXs : X.size = x.length := by rw [← hX]; simp
      have hXm : X.size ≤ 9223372036854775807 := by omega
      have HXL := Lib.hid hX
      have HXS := Lib.hid hXs
      have HAll := Lib.hid hall
      clear hX1 hX hXs hsz hall
      by_cases h0 : X.size = 0
      · have hn : X.data.toList = [] := List.eq_nil_of_length_eq_zero (by simpa using h0)
        have hse : X.toList.isEmpty = true := by rw [ByteArray.toList_eq, hn]; rfl
        have hse2 : (X.toList == []) = true := by rw [ByteArray.toList_eq, hn]; rfl
        have hse3 : X.toList = [] := by rw [ByteArray.toList_eq, hn]
        clear hn h0
        go_wp2
        go_ret
        exact ⟨rfl, HB1.out⟩
      have hse := toList_empty (show 0 < X.size from by omega)
      have hsn := toList_ne (show 0 < X.size from by omega)
      have hsn2 : (X.toList == []) = false := by simpa using hsn
      by_cases h40 : 40 < X.size
      · have f1 : decide ((40 : Int) < (X.size : Int)) = true := by simp; omega
        clear h40
        go_wp2
        go_ret
        exact ⟨rfl, HB1.out⟩
      have f1 : decide ((40 : Int) < (X.size : Int)) = false := by simp; omega
      have hX40 : X.size ≤ 40 := by omega
      have HX0 := Lib.hid h0
      clear h40 h0
      have HSL := Lib.hid (show X.data.toList.length = X.size by simp)
      rename World => w2
      go_wp2_with fail
      go_loopw [7] (fun i wr2 => LwRel X w2 i wr2) (fun i _ => X.size - (intOf i).toNat)
      case atStart => exact ⟨0, rfl, Nat.zero_le _, fun b hb => by simp at hb, rfl⟩
      case round =>
        obtain ⟨j, rfl, hj, hlow, hwe⟩ := hrel
        have hwe := hwe.symm
        subst hwe
        by_cases hp2 : j < X.size
        · have hlt : j < X.data.toList.length := by rw [HSL.out]; exact hp2
          have HStep := Lib.hid (fun h => low_step hlt hlow h)
          rw [show X.data.toList[j] = X[j] from rfl] at HStep
          clear hlow
          by_cases ha : X[j].toNat < 97
          · have g1 : decide ((X[j].toNat : Int) < 97) = true := by simp; omega
            clear ha
            go_wp2
            go_ret
            exact ⟨rfl, HB1.out⟩
          · have g1 : decide ((X[j].toNat : Int) < 97) = false := by simp; omega
            by_cases hb : 122 < X[j].toNat
            · have g2 : decide ((122 : Int) < (X[j].toNat : Int)) = true := by simp; omega
              clear ha hb
              go_wp2
              go_ret
              exact ⟨rfl, HB1.out⟩
            · have g2 : decide ((122 : Int) < (X[j].toNat : Int)) = false := by simp; omega
              have HL := Lib.hid (HStep.out ⟨by omega, by omega⟩)
              clear ha hb
              go_wp2
              first
                | (go_roundw
                   case rel => exact ⟨j + 1, by go_num, by omega, HL.out, rfl⟩
                   case measure => simp [intOf]; omega)
                | exact ⟨⟨j + 1, by go_num, by omega, HL.out, rfl⟩, by simp [intOf]; omega⟩
        · obtain rfl : j = X.size := by omega
          rw [List.take_of_length_le (by rw [HSL.out]; exact Nat.le_refl _), HXL.out] at hlow
          have HAll2 := Lib.hid (show ∀ y ∈ ls.take (k + 1), Word y ∧ y.length ≤ 40 from by
            intro y hy
            rw [HTk.out] at hy
            rcases List.mem_append.1 hy with hy | hy
            · exact HAll.out y hy
            · simp at hy
              subst hy
              exact ⟨⟨hlow, fun e => HX0.out (by rw [HXS.out, e]; rfl)⟩, by have := HXS.out; omega⟩)
          clear hlow
          go_wp2
          first
            | (go_roundw
               case rel => exact ⟨k + 1, by go_num, by omega, HAll2.out, rfl⟩
               case measure => simp [intOf]; omega)
            | exact ⟨⟨k + 1, by go_num, by omega, HAll2.out, rfl⟩, by simp [intOf]; omega⟩
    · obtain rfl : k = ls.length := by omega
      rw [List.take_length] at hall
      have HWd := Lib.hid hall
      have HPa := Lib.hid (parse_para ls (fun e => by rw [e] at h1; simp at h1) (fun x hx => (hall x hx).1))
      have hfew : Few ls := ⟨by omega, fun y hy => by have h3 := wt_le y; have := (hall y hy).2; omega⟩
      have HF := Lib.hid hfew
      clear hall hfew
      obtain ⟨j, hj, hix⟩ := paras_index a1 ls.length h1 h20
      have hn0 : ¬ (ls.length : Int) = 0 := by omega
      have ca := bparse_any (some ⟨b9, off, none⟩) cap ls w1 HR1.out HF.out
      rw [HPa.out] at ca
      go_wp2_with fail
      refine ca.mono ?_
      rintro e w2 ⟨va, rfl, howna, b2⟩
      clear hix hn0 ca
      have HR2 := Lib.hid (HR1.out.below b2)
      have HB2 := Lib.hid (HB1.out.then b2)
      have HOa := Lib.hid howna
      clear howna b2
      have hsl1 := fun W => slice_to b9 off ls.length cap j (by omega) W
      have hsl2 := fun W => slice_from b9 off ls.length cap j hj hcl.1 W
      go_wp2_with fail
      refine wp_region_N (fun _ => True) (fun _ => true) (by kernel_rfl) ?_
      have HRd := Lib.hid (show RowOf w2.drew (some ⟨b9, off, none⟩) cap (strs ls) from rowOf_heap rfl HR2.out)
      have HOd := Lib.hid (show w2.drew.ownsRow w1.heap.size 28 6 va 1 _ from own_heap (w := w2) rfl HOa.out)
      have HBd := Lib.hid (HB2.out.drew)
      generalize w2.drew = wd at *
      have hba := (drop_row HRd.out hj)
      refine wpAnyN_take_at 0 67 (v := ?_) rfl rfl (by kernel_rfl) (by kernel_rfl) (by kernel_rfl) (by kernel_rfl) (by kernel_rfl) (fun _ _ _ h => h) (by rfl) ?_ trivial ?_
      rotate_left
      · intro w hSw; (try dsimp only at hSw); go_simp; (try with_reducible rfl)
      simp only [Act.put, List.setIfInBounds_toArray, List.set_cons_zero, List.set_cons_succ]
      refine wpAnyN_take_at 1 68 (v := ?_) rfl rfl (by kernel_rfl) (by kernel_rfl) (by kernel_rfl) (by kernel_rfl) (by kernel_rfl) (fun _ _ _ h => h) (by rfl) ?_ trivial ?_
      rotate_left
      · intro w hSw; (try dsimp only at hSw); go_simp; (try with_reducible rfl)
      simp only [Act.put, List.setIfInBounds_toArray, List.set_cons_zero, List.set_cons_succ]
      refine wpAnyN_take_at 2 69 (v := ?_) rfl rfl (by kernel_rfl) (by kernel_rfl) (by kernel_rfl) (by kernel_rfl) (by kernel_rfl) (fun _ _ _ h => h) (by rfl) ?_ trivial ?_
      rotate_left
      · intro w hSw; (try dsimp only at hSw); go_simp; (try with_reducible rfl)
      simp only [Act.put, List.setIfInBounds_toArray, List.set_cons_zero, List.set_cons_succ]
      refine wpAnyN_take_at 6 73 (v := ?_) rfl rfl (by kernel_rfl) (by kernel_rfl) (by kernel_rfl) (by kernel_rfl) (by kernel_rfl) (fun _ _ _ h => h) (by rfl) ?_ trivial ?_
      rotate_left
      · intro w hSw; (try dsimp only at hSw); go_simp; (try with_reducible rfl)
      simp only [Act.put, List.setIfInBounds_toArray, List.set_cons_zero, List.set_cons_succ]
      refine wpAnyN_take_at 7 74 (v := ?_) rfl rfl (by kernel_rfl) (by kernel_rfl) (by kernel_rfl) (by kernel_rfl) (by kernel_rfl) (fun _ _ _ h => h) (by rfl) ?_ trivial ?_
      rotate_left
      · intro w hSw; (try dsimp only at hSw); go_simp; (try with_reducible rfl)
      simp only [Act.put, List.setIfInBounds_toArray, List.set_cons_zero, List.set_cons_succ]
      refine wpAnyN_take_at 8 75 (v := ?_) rfl rfl (by kernel_rfl) (by kernel_rfl) (by kernel_rfl) (by kernel_rfl) (by kernel_rfl) (fun _ _ _ h => h) (by rfl) ?_ trivial ?_
      rotate_left
      · intro w hSw; (try dsimp only at hSw); go_simp; (try with_reducible rfl)
      simp only [Act.put, List.setIfInBounds_toArray, List.set_cons_zero, List.set_cons_succ]
      clear hsl1 hsl2 hba
      refine wpAnyN_two (i := 3) (j := 4) rfl rfl (by kernel_rfl) (fun K hK => ?_) (fun K hK => ?_)
      · rw [if_pos (by rfl)]
        refine wp_append_strs _ _ rfl wd.heap.size (.slice none 0 0) 0 [] rfl (World.ownsRow_nil _ _ _ _) ⟨b9, off, none⟩ cap j (ls.take j) rfl (by rw [List.length_take]; omega) (HRd.out.takeL j).cells (by omega) (Nat.le_refl _) ?_
        intro v3 w3 hown3 hgrow3
        have hb3 : Below wd.heap.size wd w3 := (Below.refl _ _).grown hgrow3 (Nat.le_refl _) (fun k hk => by simp [Value.ownBlock] at hk)
        have hs3 := hb3.size
        have HB3 := Lib.hid hb3
        rw [List.nil_append, Nat.zero_add] at hown3
        refine hK _ _ (fun _ => trivial) ?_
        clear hK hgrow3 hb3
        simp only [Act.put, List.setIfInBounds_toArray, List.set_cons_zero, List.set_cons_succ]
        refine wpAnyN_one (i := 4) rfl (by kernel_rfl) (fun K hK => ?_)
        go_simp
        have hnw := cells_one w3 (.string ⟨#[32]⟩) 9
        have hrow3 := hown3.alloc (.cells #[.string ⟨#[32]⟩] 9)
        have hsa := alloc_size w3 (.cells #[.string ⟨#[32]⟩] 9)
        have hb3a := HB3.out.alloc hs3 (.cells #[.string ⟨#[32]⟩] 9)
        refine hK _ _ (fun _ => trivial) ?_
        clear hK
        generalize w3.alloc (.cells #[.string ⟨#[32]⟩] 9) = w3a at *
        refine wpAnyN_one (i := 5) rfl (by kernel_rfl) (fun K hK => ?_)
        rw [if_pos (by rfl)]
        refine wp_append_strs _ _ rfl wd.heap.size v3 j (ls.take j) rfl hrow3 ⟨w3.heap.size, 0, none⟩ 1 1 [[32]] rfl rfl hnw (by omega) (by omega) ?_
        intro v4 w4 hown4 hgrow4
        have HB4 := Lib.hid (hb3a.trans (below_of_grown hgrow4 (fun g hg => (hrow3.lt g hg).1) (by omega)))
        have hs4 := HB4.out.size
        refine hK _ _ (fun _ => trivial) ?_
        clear hK hgrow4 hrow3 hnw hown3 hb3a
        simp only [Act.put, List.setIfInBounds_toArray, List.set_cons_zero, List.set_cons_succ]
        refine wpAnyN_restT 9 [_, _] (fun _ => trivial) rfl (by kernel_rfl) ?_
        refine wpList_plain rfl fun K hK => ?_
        refine wp_append_strs _ _ rfl wd.heap.size v4 (j + 1) (ls.take j ++ [[32]]) rfl hown4 ⟨b9, off + j, none⟩ (cap - j) (ls.length - j) (ls.drop j) rfl (by rw [List.length_drop]) (drop_row (HRd.out.below HB4.out) hj).cells (by omega) (by omega) ?_
        intro v5 w5 hown5 hgrow5
        have HB5 := Lib.hid (HB4.out.trans (below_of_grown hgrow5 (fun g hg => (hown4.lt g hg).1) (by omega)))
        refine hK _ _ ?_
        clear hK hgrow5 hown4
        simp only [Act.put, List.setIfInBounds_toArray, List.set_cons_zero, List.set_cons_succ]
        have hlm : ((ls.take j ++ [[32]]) ++ ls.drop j).length = j + 1 + (ls.length - j) := by simp; omega
        rw [← hlm] at hown5
        obtain ⟨A8, c8, rfl, hr8, _⟩ := RowOf.own hown5
        have hfewm : Few ((ls.take j ++ [[32]]) ++ ls.drop j) := ⟨by rw [hlm]; omega, fun y hy => by
          rcases List.mem_append.1 hy with hy | hy
          · rcases List.mem_append.1 hy with hy | hy
            · exact HF.out.wt y (List.mem_of_mem_take hy)
            · simp at hy; subst hy; decide
          · exact HF.out.wt y (List.mem_of_mem_drop hy)⟩
        have cb := bparse_any A8 c8 ((ls.take j ++ [[32]]) ++ ls.drop j) w5 hr8 hfewm
        rw [hlm] at cb ⊢
        obtain ⟨mb, hmb⟩ : ∃ mb, parseB ((ls.take j ++ [[32]]) ++ ls.drop j) = mb := ⟨_, rfl⟩
        rw [hmb] at cb
        have HMb := Lib.hid hmb
        have HR5 := Lib.hid (HRd.out.below HB5.out)
        have HO5 := Lib.hid (ownsRow_below HOd.out HB5.out)
        have HBw5 := Lib.hid (HBd.out.then HB5.out)
        clear hown5 hr8 hfewm hlm hmb
        go_wp2_with fail
        refine cb.mono ?_
        rintro e w6 ⟨vb, rfl, hownb, b6⟩
        have HR6 := Lib.hid (HR5.out.below b6)
        have howna := ownsRow_below HO5.out b6
        have HB6 := Lib.hid (HBw5.out.then b6)
        obtain ⟨Aa, ca2, rfl, hata⟩ := BlksAt.own howna
        obtain ⟨Ab, cb2, rfl, hatb⟩ := BlksAt.own hownb
        obtain ⟨ba, oa, hAa, hba, a00, a01, a02, a03, a04, a05⟩ := hata.one
        subst hAa
        dsimp only at a00 a01 a02 a03 a04 a05
        have hlea := hata.le
        have hcma := hata.cap
        have hleb := hatb.le
        have hcmb := hatb.cap
        unfold maxLen at hcma hcmb
        have HAa := Lib.hid hata
        have HAb := Lib.hid hatb
        have HTJ := Lib.hid (fun (W : World) (hW : W.heap = w6.heap) => textJ_any (some ⟨b9, off, none⟩) cap ls W (rowOf_heap hW HR6.out) h20 (fun x hx => (HWd.out x hx).2))
        simp only [List.length_cons, List.length_nil] at hlea
        clear cb hownb howna hata hatb b6
        obtain ⟨J, hJ⟩ : ∃ J, (⟨(Lib.join ls [10]).toArray⟩ : ByteArray) = J := ⟨_, rfl⟩
        rw [hJ] at a04 HTJ
        clear hJ
        go_wp2_with fail
        go_quiet ((go_at_call 21; exact Calls.quiet_of_same (HTJ.out _ rfl)))
        by_cases hj0 : j = 0
        · have hq : ((j : Int) == 0) = true := by simp; omega
          have hpm : mb = [⟨1, 0, 0, false, Lib.join ls [10], []⟩] := by
            rw [← HMb.out, hj0, List.take_zero, List.drop_zero, List.nil_append, List.singleton_append, parseB_blank (s := [32]) rfl, HPa.out]
          subst hpm
          have HAb2 := HAb.out
          have cs := fun nq => sameBlocks_same (some ⟨ba, oa, none⟩) Ab ca2 cb2 [⟨1, 0, 0, false, Lib.join ls [10], []⟩] (w6.drewN nq) (HAa.out.drew nq) (HAb2.drew nq)
          simp only [List.length_cons, List.length_nil] at cs hleb ⊢
          clear HAb2 hj0 a00 a01 a02 a03 a04 a05
          go_wp2_with fail
          refine (cs _).mono ?_
          rintro e w7 ⟨rfl, nq, rfl⟩
          go_wp2
          go_ret
          first | exact ⟨rfl, below_drewN' (below_drewN' HB6.out _) _⟩ | exact ⟨rfl, below_drewN' HB6.out _⟩
        · have hq : ((j : Int) == 0) = false := by simp; omega
          have hpm : mb = [⟨1, 0, 0, false, Lib.join (ls.take j) [10], []⟩, ⟨1, 0, 0, false, Lib.join (ls.drop j) [10], []⟩] := by
            rw [← HMb.out, List.append_assoc, List.singleton_append, parse_mid (ls.take j) (ls.drop j) (fun e => by have := congrArg List.length e; rw [List.length_take, List.length_nil] at this; omega) (fun e => by have := congrArg List.length e; rw [List.length_drop, List.length_nil] at this; omega) (fun x hx => (HWd.out x (List.mem_of_mem_take hx)).1) (fun x hx => (HWd.out x (List.mem_of_mem_drop hx)).1)]
          subst hpm
          have HAb2 := HAb.out
          obtain ⟨bb, ob, hAb, hbb, c00, c01, c02, c03, c04, c05⟩ := HAb2.one
          subst hAb
          obtain ⟨c10, c11, c12, c13, c14, c15⟩ := HAb2.second
          dsimp only at c04 c14
          have HT1 := Lib.hid (fun (W : World) (hW : W.heap = w6.heap) => textJ_any (some ⟨b9, off, none⟩) cap (ls.take j) W (rowOf_heap hW (HR6.out.takeL j)) (by rw [List.length_take]; omega) (fun x hx => (HWd.out x (List.mem_of_mem_take hx)).2))
          have HT2 := Lib.hid (fun (W : World) (hW : W.heap = w6.heap) => textJ_any (some ⟨b9, off + j, none⟩) (cap - j) (ls.drop j) W (rowOf_heap hW (drop_row HR6.out hj)) (by rw [List.length_drop]; omega) (fun x hx => (HWd.out x (List.mem_of_mem_drop hx)).2))
          rw [List.length_take, Nat.min_eq_left (by omega : j ≤ ls.length)] at HT1
          rw [List.length_drop] at HT2
          obtain ⟨J1, hJ1⟩ : ∃ J1, (⟨(Lib.join (ls.take j) [10]).toArray⟩ : ByteArray) = J1 := ⟨_, rfl⟩
          obtain ⟨J2, hJ2⟩ : ∃ J2, (⟨(Lib.join (ls.drop j) [10]).toArray⟩ : ByteArray) = J2 := ⟨_, rfl⟩
          rw [hJ1] at c04 HT1
          rw [hJ2] at c14 HT2
          simp only [List.length_cons, List.length_nil] at hleb ⊢
          have hsl1 := fun W => slice_to b9 off ls.length cap j (by omega) W
          have hsl2 := fun W => slice_from b9 off ls.length cap j hj hcl.1 W
          clear HAb2 hj0 hJ1 hJ2 a00 a01 a02 a03 a04 a05 c00 c01 c02 c03 c05 c10 c11 c12 c13 c15
          go_wp2_with fail
          go_quiet ((go_at_call 21; (first | (with_reducible refine (HT1.out _ ?_).mono ?_) | (with_reducible refine (HT2.out _ ?_).mono ?_)) <;> (first | rfl | exact fun _ _ h => ⟨h.1, _, h.2⟩)))
          go_wp2
          go_ret
          first | exact ⟨ret_bool (by simp), below_drewN' (below_drewN' HB6.out _) _⟩ | exact ⟨ret_bool (by simp), below_drewN' HB6.out _⟩
      · go_simp
        have hnw := cells_one wd (.string ⟨#[32]⟩) 9
        have hsa := alloc_size wd (.cells #[.string ⟨#[32]⟩] 9)
        have hba2 : Below wd.heap.size wd (wd.alloc (.cells #[.string ⟨#[32]⟩] 9)) := (Below.refl _ wd).alloc (Nat.le_refl _) _
        have HRa := Lib.hid (HRd.out.below hba2)
        have HBA := Lib.hid hba2
        refine hK _ _ (fun _ => trivial) ?_
        clear hK hba2
        generalize wd.alloc (.cells #[.string ⟨#[32]⟩] 9) = wa at *
        refine wpAnyN_one (i := 3) rfl (by kernel_rfl) (fun K hK => ?_)
        rw [if_pos (by rfl)]
        refine wp_append_strs _ _ rfl (wd.heap.size + 1) (.slice none 0 0) 0 [] rfl (World.ownsRow_nil _ _ _ _) ⟨b9, off, none⟩ cap j (ls.take j) rfl (by rw [List.length_take]; omega) (HRa.out.takeL j).cells (by omega) (by omega) ?_
        intro v3 w3 hown3 hgrow3
        have hb3 : Below (wd.heap.size + 1) wa w3 := (Below.refl _ _).grown hgrow3 (by omega) (fun k hk => by simp [Value.ownBlock] at hk)
        have hs3 := hb3.size
        rw [List.nil_append, Nat.zero_add] at hown3
        have hnw3 : ∀ (j : Nat) (x : Value), (strs [[32]])[j]? = some x → w3.cell? ((⟨wd.heap.size, 0, none⟩ : Addr).add j) = some x := fun j x hx => (hb3.cell (p := (⟨wd.heap.size, 0, none⟩ : Addr).add j) (by rw [addr_add]; show wd.heap.size < _; omega)).trans (hnw j x hx)
        have HB3 := Lib.hid (HBA.out.trans (hb3.mono (by omega)))
        refine hK _ _ (fun _ => trivial) ?_
        clear hK hgrow3 hb3 hnw
        simp only [Act.put, List.setIfInBounds_toArray, List.set_cons_zero, List.set_cons_succ]
        refine wpAnyN_one (i := 5) rfl (by kernel_rfl) (fun K hK => ?_)
        rw [if_pos (by rfl)]
        refine wp_append_strs _ _ rfl (wd.heap.size + 1) v3 j (ls.take j) rfl hown3 ⟨wd.heap.size, 0, none⟩ 1 1 [[32]] rfl rfl hnw3 (by omega) (by omega) ?_
        intro v4 w4 hown4 hgrow4
        have HB4 := Lib.hid (HB3.out.trans (below_of_grown (B := wd.heap.size) hgrow4 (fun g hg => by have := (hown3.lt g hg).1; omega) (by omega)))
        have hs4 := hgrow4.size
        refine hK _ _ (fun _ => trivial) ?_
        clear hK hgrow4 hown3 hnw3
        simp only [Act.put, List.setIfInBounds_toArray, List.set_cons_zero, List.set_cons_succ]
        refine wpAnyN_restT 9 [_, _] (fun _ => trivial) rfl (by kernel_rfl) ?_
        refine wpList_plain rfl fun K hK => ?_
        refine wp_append_strs _ _ rfl (wd.heap.size + 1) v4 (j + 1) (ls.take j ++ [[32]]) rfl hown4 ⟨b9, off + j, none⟩ (cap - j) (ls.length - j) (ls.drop j) rfl (by rw [List.length_drop]) (drop_row (HRd.out.below HB4.out) hj).cells (by omega) (by omega) ?_
        intro v5 w5 hown5 hgrow5
        have HB5 := Lib.hid (HB4.out.trans (below_of_grown (B := wd.heap.size) hgrow5 (fun g hg => by have := (hown4.lt g hg).1; omega) (by omega)))
        refine hK _ _ ?_
        clear hK hgrow5 hown4
        simp only [Act.put, List.setIfInBounds_toArray, List.set_cons_zero, List.set_cons_succ]
        have hlm : ((ls.take j ++ [[32]]) ++ ls.drop j).length = j + 1 + (ls.length - j) := by simp; omega
        rw [← hlm] at hown5
        obtain ⟨A8, c8, rfl, hr8, _⟩ := RowOf.own hown5
        have hfewm : Few ((ls.take j ++ [[32]]) ++ ls.drop j) := ⟨by rw [hlm]; omega, fun y hy => by
          rcases List.mem_append.1 hy with hy | hy
          · rcases List.mem_append.1 hy with hy | hy
            · exact HF.out.wt y (List.mem_of_mem_take hy)
            · simp at hy; subst hy; decide
          · exact HF.out.wt y (List.mem_of_mem_drop hy)⟩
        have cb := bparse_any A8 c8 ((ls.take j ++ [[32]]) ++ ls.drop j) w5 hr8 hfewm
        rw [hlm] at cb ⊢
        obtain ⟨mb, hmb⟩ : ∃ mb, parseB ((ls.take j ++ [[32]]) ++ ls.drop j) = mb := ⟨_, rfl⟩
        rw [hmb] at cb
        have HMb := Lib.hid hmb
        have HR5 := Lib.hid (HRd.out.below HB5.out)
        have HO5 := Lib.hid (ownsRow_below HOd.out HB5.out)
        have HBw5 := Lib.hid (HBd.out.then HB5.out)
        clear hown5 hr8 hfewm hlm hmb
        go_wp2_with fail
        refine cb.mono ?_
        rintro e w6 ⟨vb, rfl, hownb, b6⟩
        have HR6 := Lib.hid (HR5.out.below b6)
        have howna := ownsRow_below HO5.out b6
        have HB6 := Lib.hid (HBw5.out.then b6)
        obtain ⟨Aa, ca2, rfl, hata⟩ := BlksAt.own howna
        obtain ⟨Ab, cb2, rfl, hatb⟩ := BlksAt.own hownb
        obtain ⟨ba, oa, hAa, hba, a00, a01, a02, a03, a04, a05⟩ := hata.one
        subst hAa
        dsimp only at a00 a01 a02 a03 a04 a05
        have hlea := hata.le
        have hcma := hata.cap
        have hleb := hatb.le
        have hcmb := hatb.cap
        unfold maxLen at hcma hcmb
        have HAa := Lib.hid hata
        have HAb := Lib.hid hatb
        have HTJ := Lib.hid (fun (W : World) (hW : W.heap = w6.heap) => textJ_any (some ⟨b9, off, none⟩) cap ls W (rowOf_heap hW HR6.out) h20 (fun x hx => (HWd.out x hx).2))
        simp only [List.length_cons, List.length_nil] at hlea
        clear cb hownb howna hata hatb b6
        obtain ⟨J, hJ⟩ : ∃ J, (⟨(Lib.join ls [10]).toArray⟩ : ByteArray) = J := ⟨_, rfl⟩
        rw [hJ] at a04 HTJ
        clear hJ
        go_wp2_with fail
        go_quiet ((go_at_call 21; exact Calls.quiet_of_same (HTJ.out _ rfl)))
        by_cases hj0 : j = 0
        · have hq : ((j : Int) == 0) = true := by simp; omega
          have hpm : mb = [⟨1, 0, 0, false, Lib.join ls [10], []⟩] := by
            rw [← HMb.out, hj0, List.take_zero, List.drop_zero, List.nil_append, List.singleton_append, parseB_blank (s := [32]) rfl, HPa.out]
          subst hpm
          have HAb2 := HAb.out
          have cs := fun nq => sameBlocks_same (some ⟨ba, oa, none⟩) Ab ca2 cb2 [⟨1, 0, 0, false, Lib.join ls [10], []⟩] (w6.drewN nq) (HAa.out.drew nq) (HAb2.drew nq)
          simp only [List.length_cons, List.length_nil] at cs hleb ⊢
          clear HAb2 hj0 a00 a01 a02 a03 a04 a05
          go_wp2_with fail
          refine (cs _).mono ?_
          rintro e w7 ⟨rfl, nq, rfl⟩
          go_wp2
          go_ret
          first | exact ⟨rfl, below_drewN' (below_drewN' HB6.out _) _⟩ | exact ⟨rfl, below_drewN' HB6.out _⟩
        · have hq : ((j : Int) == 0) = false := by simp; omega
          have hpm : mb = [⟨1, 0, 0, false, Lib.join (ls.take j) [10], []⟩, ⟨1, 0, 0, false, Lib.join (ls.drop j) [10], []⟩] := by
            rw [← HMb.out, List.append_assoc, List.singleton_append, parse_mid (ls.take j) (ls.drop j) (fun e => by have := congrArg List.length e; rw [List.length_take, List.length_nil] at this; omega) (fun e => by have := congrArg List.length e; rw [List.length_drop, List.length_nil] at this; omega) (fun x hx => (HWd.out x (List.mem_of_mem_take hx)).1) (fun x hx => (HWd.out x (List.mem_of_mem_drop hx)).1)]
          subst hpm
          have HAb2 := HAb.out
          obtain ⟨bb, ob, hAb, hbb, c00, c01, c02, c03, c04, c05⟩ := HAb2.one
          subst hAb
          obtain ⟨c10, c11, c12, c13, c14, c15⟩ := HAb2.second
          dsimp only at c04 c14
          have HT1 := Lib.hid (fun (W : World) (hW : W.heap = w6.heap) => textJ_any (some ⟨b9, off, none⟩) cap (ls.take j) W (rowOf_heap hW (HR6.out.takeL j)) (by rw [List.length_take]; omega) (fun x hx => (HWd.out x (List.mem_of_mem_take hx)).2))
          have HT2 := Lib.hid (fun (W : World) (hW : W.heap = w6.heap) => textJ_any (some ⟨b9, off + j, none⟩) (cap - j) (ls.drop j) W (rowOf_heap hW (drop_row HR6.out hj)) (by rw [List.length_drop]; omega) (fun x hx => (HWd.out x (List.mem_of_mem_drop hx)).2))
          rw [List.length_take, Nat.min_eq_left (by omega : j ≤ ls.length)] at HT1
          rw [List.length_drop] at HT2
          obtain ⟨J1, hJ1⟩ : ∃ J1, (⟨(Lib.join (ls.take j) [10]).toArray⟩ : ByteArray) = J1 := ⟨_, rfl⟩
          obtain ⟨J2, hJ2⟩ : ∃ J2, (⟨(Lib.join (ls.drop j) [10]).toArray⟩ : ByteArray) = J2 := ⟨_, rfl⟩
          rw [hJ1] at c04 HT1
          rw [hJ2] at c14 HT2
          simp only [List.length_cons, List.length_nil] at hleb ⊢
          have hsl1 := fun W => slice_to b9 off ls.length cap j (by omega) W
          have hsl2 := fun W => slice_from b9 off ls.length cap j hj hcl.1 W
          clear HAb2 hj0 hJ1 hJ2 a00 a01 a02 a03 a04 a05 c00 c01 c02 c03 c05 c10 c11 c12 c13 c15
          go_wp2_with fail
          go_quiet ((go_at_call 21; (first | (with_reducible refine (HT1.out _ ?_).mono ?_) | (with_reducible refine (HT2.out _ ?_).mono ?_)) <;> (first | rfl | exact fun _ _ h => ⟨h.1, _, h.2⟩)))
          go_wp2
          go_ret
          first | exact ⟨ret_bool (by simp), below_drewN' (below_drewN' HB6.out _) _⟩ | exact ⟨ret_bool (by simp), below_drewN' HB6.out _⟩

theorem blockParas_walk (w : World) (A0 : Option Addr) (c0 : Nat) (z0 : List ByteArray) (r0 : RowOf w A0 c0 (z0.map Value.string)) (w0 : ∀ s ∈ z0, s.size ≤ maxLen) (a1 : Int) (w1 : (Lit.int .i64 a1).wf = true) :
    Calls Tryd.prog 7 #[.slice A0 z0.length c0, .int .i64 a1] w fun e w' => e = .returned (.bool true) ∧ Below w.heap.size w w' := by
  by_cases h20 : 1 ≤ z0.length ∧ z0.length ≤ 20
  · rw [strs_of] at r0
    have h := blockParas_short w A0 c0 _ a1 r0 (fun y hy => by
      obtain ⟨s, hs, rfl⟩ := List.mem_map.1 hy
      have := w0 s hs
      unfold maxLen at this
      simpa using this) (by rw [List.length_map]; exact h20.1) (by rw [List.length_map]; exact h20.2)
    simp only [List.length_map] at h
    exact h
  · have h1 := r0.1
    have h2 := r0.2.1
    rw [List.length_map] at h1
    unfold maxLen at h2
    have hor : decide ((z0.length : Int) < 1) = true ∨ (decide ((z0.length : Int) < 1) = false ∧ decide ((20 : Int) < (z0.length : Int)) = true) := by
      by_cases h : z0.length < 1
      · exact Or.inl (by simp; omega)
      · exact Or.inr ⟨by simp; omega, by simp; omega⟩
    have hor2 : z0.length < 1 ∨ 20 < z0.length := by omega
    generalize z0.length = n at *
    clear r0 w0 h20
    rcases hor with f1 | ⟨f1, f2⟩
    all_goals
      go_enter Tryd.func7, Tryd.ntmps7
      go_wp2_with fail
      refine (alive9_any _).mono ?_
      rintro e w1 ⟨rfl, b1⟩
      go_wp2
      go_ret
      exact ⟨rfl, b1⟩

end Go.Proofs.YtoleoigpijgboaaDoor
