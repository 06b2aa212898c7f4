/-
  Package number: All.
-/
import Derived.Test.YtpifhjdbcdcelaaDoorNuC
import Derived.Laws.OwnMore
import Derived.OwnWalk
import Derived.Lib.MinMax
namespace Go.Proofs.YtpifhjdbcdcelaaDoor
open Go.RowKit
set_option linter.unusedSimpArgs false
set_option linter.unusedVariables false
set_option maxRecDepth 100000

abbrev CntAt (w : World) (b : Nat) (n : List Nat) : Prop := w.heap[b]? = some (.cells (strs (n.map dg)).toArray 38 (0, 0))
theorem count_any (b : Nat) (w : World) (n : List Nat) (hn : n.length = 6) (h : CntAt w b n) (hm : ∀ x ∈ n, x < 99) (k : Nat) (h1 : 1 ≤ k) (h6 : k ≤ 6) :
    Calls Tryd.prog 9 #[.pointer (some ⟨b, 0, none⟩), .int .i64 k] w fun e w' => e = .returned (.tuple #[]) ∧ CntAt w' b (cntStep n k) ∧ OneTurn w w' b := by
  match n, hn with
  | [n0, n1, n2, n3, n4, n5], _ =>
    have hl : ∀ x : Nat, (⟨(dg x).toArray⟩ : ByteArray).size ≤ 100 := fun x => by rw [str_size]; have := dg_len x; omega
    have hk : k = 1 ∨ k = 2 ∨ k = 3 ∨ k = 4 ∨ k = 5 ∨ k = 6 := by omega
    rcases hk with rfl | rfl | rfl | rfl | rfl | rfl
    · have := count_1 b w ⟨(dg n0).toArray⟩ ⟨(dg n1).toArray⟩ ⟨(dg n2).toArray⟩ ⟨(dg n3).toArray⟩ ⟨(dg n4).toArray⟩ ⟨(dg n5).toArray⟩ h (hl _) (dg_digit _ (by have := hm n0 (by simp); omega))
      rw [oneMore_dg n0 (hm n0 (by simp))] at this
      exact this
    · have := count_2 b w ⟨(dg n0).toArray⟩ ⟨(dg n1).toArray⟩ ⟨(dg n2).toArray⟩ ⟨(dg n3).toArray⟩ ⟨(dg n4).toArray⟩ ⟨(dg n5).toArray⟩ h (hl _) (dg_digit _ (by have := hm n1 (by simp); omega))
      rw [oneMore_dg n1 (hm n1 (by simp))] at this
      exact this
    · have := count_3 b w ⟨(dg n0).toArray⟩ ⟨(dg n1).toArray⟩ ⟨(dg n2).toArray⟩ ⟨(dg n3).toArray⟩ ⟨(dg n4).toArray⟩ ⟨(dg n5).toArray⟩ h (hl _) (dg_digit _ (by have := hm n2 (by simp); omega))
      rw [oneMore_dg n2 (hm n2 (by simp))] at this
      exact this
    · have := count_4 b w ⟨(dg n0).toArray⟩ ⟨(dg n1).toArray⟩ ⟨(dg n2).toArray⟩ ⟨(dg n3).toArray⟩ ⟨(dg n4).toArray⟩ ⟨(dg n5).toArray⟩ h (hl _) (dg_digit _ (by have := hm n3 (by simp); omega))
      rw [oneMore_dg n3 (hm n3 (by simp))] at this
      exact this
    · have := count_5 b w ⟨(dg n0).toArray⟩ ⟨(dg n1).toArray⟩ ⟨(dg n2).toArray⟩ ⟨(dg n3).toArray⟩ ⟨(dg n4).toArray⟩ ⟨(dg n5).toArray⟩ h (hl _) (dg_digit _ (by have := hm n4 (by simp); omega))
      rw [oneMore_dg n4 (hm n4 (by simp))] at this
      exact this
    · have := count_6 b w ⟨(dg n0).toArray⟩ ⟨(dg n1).toArray⟩ ⟨(dg n2).toArray⟩ ⟨(dg n3).toArray⟩ ⟨(dg n4).toArray⟩ ⟨(dg n5).toArray⟩ h (hl _) (dg_digit _ (by have := hm n5 (by simp); omega))
      rw [oneMore_dg n5 (hm n5 (by simp))] at this
      exact this
theorem OneTurn.row {w w' : World} {b B : Nat} {e t : TypeId} {size n : Nat} {v : Value} {xs : List Value} (h : OneTurn w w' b) (k : w.ownsRow B e size v n xs) {cs : Array Value} {fz : Nat × Nat} (hb : w.heap[b]? = some (.cells cs t fz)) (hne : e ≠ t) : w'.ownsRow B e size v n xs := by
  have h1 := own_ne k hb hne
  refine ⟨k.1, ?_⟩
  rcases k.2 with hn | ⟨g, cap, cur, rfl, hB, hg, rest⟩
  · exact .inl hn
  · exact .inr ⟨g, cap, cur, rfl, hB, (h.rest g (Array.getElem?_eq_some_iff.1 hg).1 (fun e => h1 (by rw [e]; rfl))).trans hg, rest⟩
/-- The numbers of the first k, and room for the others. -/
def numRow (L : List Int) (k : Nat) : List (List UInt8) := allN (L.take k) ++ List.replicate (L.length - k) []
theorem numRow_zero (L : List Int) : numRow L 0 = List.replicate L.length [] := by simp [numRow, allN, allGo]
theorem numRow_all (L : List Int) : numRow L L.length = allN L := by simp [numRow]
theorem numRow_len (L : List Int) (k : Nat) (h : k ≤ L.length) : (numRow L k).length = L.length := by unfold numRow; rw [List.length_append, allN_len, List.length_take, List.length_replicate]; omega
theorem numRow_step (L : List Int) (k : Nat) (h : k < L.length) : numRow L (k + 1) = (numRow L k).set k (numOne (cntAll zero6 (L.take k)) L[k]) := by
  unfold numRow
  rw [List.take_succ_eq_append_getElem h, allN_snoc, show L.length - k = (L.length - (k + 1)) + 1 from by omega, List.replicate_succ]
  have hl : (allN (L.take k)).length = k := by rw [allN_len, List.length_take]; omega
  rw [List.set_append_right _ _ (by omega), hl, Nat.sub_self, List.set_cons_zero, List.append_assoc]
  rfl
theorem numRow_bad (L : List Int) (k : Nat) (h : k < L.length) (hb : okLevel L[k] = false) : numRow L (k + 1) = numRow L k := by
  unfold numRow
  rw [List.take_succ_eq_append_getElem h, allN_snoc, show L.length - k = (L.length - (k + 1)) + 1 from by omega, List.replicate_succ]
  unfold numOne
  rw [hb, List.append_assoc]
  rfl
def NaRel (L : List Int) (w : World) (g b : Nat) (i : Value) (wr : World) : Prop :=
  ∃ k : Nat, i = .int .i64 k ∧ k ≤ L.length ∧ wr.ownsRow w.heap.size 9 1 (.slice (some ⟨g, 0, none⟩) L.length L.length) L.length (strs (numRow L k)) ∧ CntAt wr b (cntAll zero6 (L.take k)) ∧ Below w.heap.size w wr
theorem strs_setL (ls : List (List UInt8)) (q : Nat) (x : List UInt8) : (strs ls).set q (.string ⟨x.toArray⟩) = strs (ls.set q x) := by simp [strs, List.map_set]

set_option maxHeartbeats 4000000 in
theorem all_any (A : Option Addr) (cap : Nat) (L : List Int) (w : World) (hrow : RowOf w A cap (L.map (Value.int .i64))) (hl : L.length ≤ 90) :
    Calls Tryd.prog 6 #[.slice A L.length cap] w fun e w' => ∃ v, e = .returned v ∧ w'.ownsRow w.heap.size 9 1 v L.length (strs (allN L)) ∧ Below w.heap.size w w' := by
  obtain ⟨i0, hi, hz0, hz1, hz2⟩ := info_parts infoString
  have HROW := Lib.hid hrow
  have hc1 := hrow.1
  have hc2 := hrow.2.1
  rw [List.length_map] at hc1
  unfold maxLen at hc2
  clear hrow
  go_enter Tryd.func6, Tryd.ntmps6
  go_wp2_with (refine wpList_make_full _ rfl _ _ 24 rfl w.heap.size 9 i0 (.string ByteArray.empty) 1 Tryd.underlying24 hi hz0 hz1 .i64 .i64 _ _ L.length rfl rfl rfl rfl (by rw [hz2]; omega) (by unfold maxLen; omega) (Nat.le_refl _) ?_)
  intro w1 hown hgr
  have hs1 := hgr.size
  have hb1 : Below w.heap.size w w1 := below_of_grown hgr (fun g hg => by cases hg) (Nat.le_refl _)
  rw [toList_madeCells_one] at hown
  have hown2 : (w1.alloc (.cells (strs (zero6.map dg)).toArray 38)).ownsRow w.heap.size 9 1 (.slice (some ⟨w.heap.size, 0, none⟩) L.length L.length) L.length (strs (numRow L 0)) := by
    have : strs (numRow L 0) = List.replicate L.length (.string ByteArray.empty) := by rw [numRow_zero]; simp only [strs, List.map_replicate]; rfl
    rw [this]
    exact hown.alloc _
  have hct : CntAt (w1.alloc (.cells (strs (zero6.map dg)).toArray 38)) w1.heap.size zero6 := heap_alloc_new w1 _
  have hb2 := hb1.alloc hs1 (.cells (strs (zero6.map dg)).toArray 38)
  have HO := Lib.hid hown2
  have HC := Lib.hid hct
  have HB2 := Lib.hid hb2
  clear hown hgr hb1 hown2 hct hb2
  go_wp2_with fail
  go_loopw [12] (fun i wr => NaRel L w w.heap.size w1.heap.size i wr) (fun i wr => L.length - (intOf i).toNat)
  case atStart => exact ⟨0, rfl, Nat.zero_le _, HO.out, HC.out, HB2.out⟩
  case round =>
    obtain ⟨k, rfl, hk, hown, hct, hbw⟩ := hrel
    by_cases hp : k < L.length
    · have hne : L.map (Value.int .i64) ≠ [] := by intro e; have := congrArg List.length e; rw [List.length_map, List.length_nil] at this; omega
      obtain ⟨ab, ao, rfl, hab, hac⟩ := HROW.out.at hne
      have hcell : wr.cell? ⟨ab, ao + k, none⟩ = some (.int .i64 L[k]) := by
        have := (hbw.cell (p := ⟨ab, ao + k, none⟩) hab).trans (hac k (by rw [List.length_map]; exact hp))
        simpa using this
      have hab2 := hbw.size
      cases hok : okLevel L[k] with
      | true =>
        have hst := numRow_step L k hp
        have hnum : numOne (cntAll zero6 (L.take k)) L[k] = numL ((cntStep (cntAll zero6 (L.take k)) L[k].toNat).map dg) := by unfold numOne; rw [if_pos hok]
        have hcnt : cntAll zero6 (L.take (k + 1)) = cntStep (cntAll zero6 (L.take k)) L[k].toNat := by
          rw [List.take_succ_eq_append_getElem hp, cntAll_snoc]; unfold cntOne; rw [if_pos hok]
        have hmem := cntAll_mem (L.take k)
        have hlen := cntAll_len (L.take k) zero6 rfl
        have htl : (L.take k).length = k := by rw [List.length_take]; omega
        rw [htl] at hmem
        rw [hnum] at hst
        obtain ⟨m, hm, hm1, hm6⟩ : ∃ m : Nat, L[k] = m ∧ 1 ≤ m ∧ m ≤ 6 := by
          simp [okLevel] at hok
          exact ⟨L[k].toNat, by omega, by omega, by omega⟩
        rw [hm] at hst hcell hcnt
        rw [Int.toNat_natCast] at hst hcnt
        generalize cntAll zero6 (L.take k) = n at *
        have co := count_any w1.heap.size wr n hlen hct (fun x hx => by have := hmem x hx; omega) m hm1 hm6
        have hl2 := cntStep_len n m hlen hm1 hm6
        have hmem2 := cntStep_mem n m k hmem
        have HCT := Lib.hid hct
        have HOW := Lib.hid hown
        have CO := Lib.hid co
        have HST := Lib.hid hst
        have HCN := Lib.hid hcnt
        have HBW := Lib.hid hbw
        have HL2 := Lib.hid hl2
        have hd1 : decide ((1 : Int) ≤ (m : Int)) = true := by simp; omega
        have hd2 : decide ((m : Int) ≤ 6) = true := by simp; omega
        clear hok hmem hlen htl hm hnum hown hct co hst hcnt hbw hl2 hac hne
        go_wp2_with fail
        refine CO.out.mono ?_
        rintro e w2 ⟨rfl, hct2, ht⟩
        have HOW2 := Lib.hid (ht.row HOW.out HCT.out (by decide))
        have HBW2 := Lib.hid (HBW.out.trans (ht.below hs1 hab2))
        have hs2 := ht.size
        have cn := number_any w1.heap.size w2 ((cntStep n m).map dg) (by rw [List.length_map]; exact HL2.out) (fun d hd => by obtain ⟨x, _, rfl⟩ := List.mem_map.1 hd; have := dg_len x; omega) hct2
        have CN := Lib.hid cn
        have HCT2 := Lib.hid hct2
        clear cn hct2 ht
        go_wp2_with fail
        refine CN.out.mono ?_
        rintro e w3 ⟨rfl, b3⟩
        have HOW3 := Lib.hid (ownsRow_below HOW2.out b3)
        have HCT3 := Lib.hid ((b3.block _ (Array.getElem?_eq_some_iff.1 HCT2.out).1).trans HCT2.out)
        have hs3 := b3.size
        have HBW3 := Lib.hid (HBW2.out.trans (b3.mono (by omega)))
        obtain ⟨s1, s2⟩ := HOW3.out.stored k (.string ⟨(numL ((cntStep n m).map dg)).toArray⟩)
        rw [strs_setL, ← HST.out] at s1
        have hc3 := HOW3.out.cellAt k (by rw [Nat.mul_one]; exact hp)
        rw [List.getElem?_eq_getElem (by rw [strs_length, numRow_len _ _ hk]; exact hp)] at hc3
        have hf3 := HOW3.out.frozenAt k
        have HS1 := Lib.hid s1
        have hne3 := own_ne HOW3.out HCT3.out (by decide)
        have HCT4 := Lib.hid (show CntAt (w3.setCell ⟨w.heap.size, k, none⟩ (.string ⟨(numL ((cntStep n m).map dg)).toArray⟩)) w1.heap.size (cntStep n m) from
          (Below.heap_setCell w3 ⟨w.heap.size, k, none⟩ _ w1.heap.size (fun e1 => hne3 (by rw [show w1.heap.size = w.heap.size from e1]; rfl))).trans HCT3.out)
        have HBW4 := Lib.hid (HBW3.out.setCell (p := ⟨w.heap.size, k, none⟩) (Nat.le_refl _) (.string ⟨(numL ((cntStep n m).map dg)).toArray⟩))
        clear s1 s2 hne3
        generalize (⟨(numL ((cntStep n m).map dg)).toArray⟩ : ByteArray) = X at *
        generalize (strs (numRow L k))[k]'_ = u0 at *
        go_wp2
        go_roundw
        case rel => exact ⟨k + 1, by go_num, by omega, HS1.out, by rw [HCN.out]; exact HCT4.out, HBW4.out⟩
        case measure => simp [intOf]; omega
      | false =>
        have hbad := Lib.hid (numRow_bad L k hp hok)
        have hcnt : cntAll zero6 (L.take (k + 1)) = cntAll zero6 (L.take k) := by
          rw [List.take_succ_eq_append_getElem hp, cntAll_snoc]; unfold cntOne; rw [if_neg (by rw [hok]; simp)]
        have HCN := Lib.hid hcnt
        have HOW := Lib.hid hown
        have HCT := Lib.hid hct
        have HBW := Lib.hid hbw
        generalize hz : L[k] = z at *
        have hcase : z < 1 ∨ (1 ≤ z ∧ 6 < z) := by simp [okLevel] at hok; omega
        clear hok hcnt hown hct hbw hac hne
        rcases hcase with h1 | ⟨h1, h2⟩
        all_goals
          go_wp2
          go_roundw
          case rel => exact ⟨k + 1, by go_num, by omega, by rw [hbad.out]; exact HOW.out, by rw [HCN.out]; exact HCT.out, HBW.out⟩
          case measure => simp [intOf]; omega
    · obtain rfl : k = L.length := by omega
      have HOW := Lib.hid hown
      have HBW := Lib.hid hbw
      clear hown hct hbw
      go_wp2
      go_ret
      exact ⟨_, rfl, by rw [← numRow_all]; exact HOW.out, HBW.out⟩

end Go.Proofs.YtpifhjdbcdcelaaDoor
