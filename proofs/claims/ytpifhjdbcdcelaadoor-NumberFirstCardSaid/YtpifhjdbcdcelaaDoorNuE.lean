/-
  Package number: levels.
-/
import Derived.Test.YtpifhjdbcdcelaaDoorNuD
import Derived.Test.YtpifhjdbcdcelaaDoorFlt
namespace Go.Proofs.YtpifhjdbcdcelaaDoor
open Go.RowKit
set_option linter.unusedSimpArgs false
set_option linter.unusedVariables false
set_option maxRecDepth 100000

/-- A heading's level and text. -/
structure Hdg where
  lv : Int
  tx : ByteArray
/-- Its two cells. -/
def hdC (x : Hdg) : List Value := [.int .i64 x.lv, .string x.tx]
theorem hdC_length (x : Hdg) : (hdC x).length = 2 := rfl
theorem hdC_one (x : Hdg) : ∀ u ∈ hdC x, u.oneCell' = true := by
  intro u hu
  simp [hdC] at hu
  rcases hu with rfl | rfl <;> rfl
theorem infoHdg : (Tryd.prog.info? 34).map (fun i => (i.zero, i.size, i.bytes)) = some (some (.agg #[.int .i64 0, .string ByteArray.empty]), 2, 24) := by kernel_rfl
theorem infoInt1 : (Tryd.prog.info? 3).map (fun i => (i.zero, i.size, i.bytes)) = some (some (.int .i64 0), 1, 8) := by kernel_rfl
def ints (l : List Int) : List Value := l.map (Value.int .i64)
def lvRow (X : List Hdg) (k : Nat) : List Int := (X.take k).map Hdg.lv ++ List.replicate (X.length - k) 0
theorem lvRow_step (X : List Hdg) (k : Nat) (h : k < X.length) : (ints (lvRow X k)).set k (.int .i64 X[k].lv) = ints (lvRow X (k + 1)) := by
  unfold lvRow ints
  rw [List.take_succ_eq_append_getElem h, show X.length - k = (X.length - (k + 1)) + 1 from by omega, List.replicate_succ]
  have hl : ((X.take k).map Hdg.lv).length = k := by rw [List.length_map, List.length_take]; omega
  rw [List.map_append, List.map_cons, List.set_append_right _ _ (by rw [List.length_map]; omega), List.length_map, hl, Nat.sub_self, List.set_cons_zero]
  simp only [List.map_append, List.map_cons, List.map_nil, List.append_assoc, List.cons_append, List.nil_append]
theorem lvRow_len (X : List Hdg) (k : Nat) (h : k ≤ X.length) : (ints (lvRow X k)).length = X.length := by unfold ints lvRow; simp; omega
def LvRel (X : List Hdg) (w : World) (g : Nat) (i : Value) (wr : World) : Prop :=
  ∃ k : Nat, i = .int .i64 k ∧ k ≤ X.length ∧ wr.ownsRow w.heap.size 3 1 (.slice (some ⟨g, 0, none⟩) X.length X.length) X.length (ints (lvRow X k)) ∧ Below w.heap.size w wr

set_option maxHeartbeats 4000000 in
theorem levels_any (A : Option Addr) (cap : Nat) (X : List Hdg) (w : World) (hrow : EltsAt w hdC 2 A cap X) (hl : X.length ≤ 90) :
    Calls Tryd.prog 11 #[.slice A X.length cap] w fun e w' => ∃ v, e = .returned v ∧ w'.ownsRow w.heap.size 3 1 v X.length (ints (X.map Hdg.lv)) ∧ Below w.heap.size w w' := by
  obtain ⟨i0, hi, hz0, hz1, hz2⟩ := info_parts infoInt1
  have HROW := Lib.hid hrow
  have hc1 := hrow.le
  have hc2 := hrow.cap
  unfold maxLen at hc2
  clear hrow
  go_enter Tryd.func11, Tryd.ntmps11
  go_wp2_with (refine wpList_make_full _ rfl _ _ 22 rfl w.heap.size 3 i0 (.int .i64 0) 1 Tryd.underlying22 hi hz0 hz1 .i64 .i64 _ _ X.length rfl rfl rfl rfl (by rw [hz2]; omega) (by unfold maxLen; omega) (Nat.le_refl _) ?_)
  intro w1 hown hgr
  have hs1 := hgr.size
  have hb1 : Below w.heap.size w w1 := below_of_grown hgr (fun g hg => by cases hg) (Nat.le_refl _)
  rw [toList_madeCells_one] at hown
  have hown2 : w1.ownsRow w.heap.size 3 1 (.slice (some ⟨w.heap.size, 0, none⟩) X.length X.length) X.length (ints (lvRow X 0)) := by
    have : ints (lvRow X 0) = List.replicate X.length (.int .i64 0) := by simp [ints, lvRow]
    rw [this]
    exact hown
  have HO := Lib.hid hown2
  have HB2 := Lib.hid hb1
  clear hown hgr hb1 hown2
  go_wp2_with fail
  go_loopw [11] (fun i wr => LvRel X w w.heap.size i wr) (fun i wr => X.length - (intOf i).toNat)
  case atStart => exact ⟨0, rfl, Nat.zero_le _, HO.out, HB2.out⟩
  case round =>
    obtain ⟨k, rfl, hk, hown, hbw⟩ := hrel
    by_cases hp : k < X.length
    · obtain ⟨ab, ao, rfl, hab, hac⟩ := HROW.out.at hp
      have hab2 := hbw.size
      have c0 : wr.cell? ⟨ab, ao + k * 2, none⟩ = some (.int .i64 X[k].lv) := (hbw.cell (p := ⟨ab, ao + k * 2, none⟩) hab).trans (hac 0 _ rfl)
      have c1 : wr.cell? ⟨ab, ao + k * 2 + 1, none⟩ = some (.string X[k].tx) := (hbw.cell (p := ⟨ab, ao + k * 2 + 1, none⟩) hab).trans (hac 1 _ rfl)
      have HST := Lib.hid (lvRow_step X k hp)
      generalize X[k] = x at *
      obtain ⟨lv, tx⟩ := x
      dsimp only at c0 c1 HST
      have hA := hown.alloc (.cells #[.int .i64 lv, .string tx] 34)
      have HBW := Lib.hid (hbw.alloc hab2 (.cells #[.int .i64 lv, .string tx] 34))
      obtain ⟨s1, s2⟩ := hA.stored k (.int .i64 lv)
      rw [HST.out] at s1
      have hc3 := hA.cellAt k (by rw [Nat.mul_one]; exact hp)
      rw [List.getElem?_eq_getElem (by rw [lvRow_len _ _ hk]; exact hp)] at hc3
      have hf3 := hA.frozenAt k
      have HS1 := Lib.hid s1
      have HBW4 := Lib.hid (HBW.out.setCell (p := ⟨w.heap.size, k, none⟩) (Nat.le_refl _) (.int .i64 lv))
      clear s1 s2 hA hown hbw hac
      generalize (ints (lvRow X k))[k]'_ = u0 at *
      go_wp2
      go_roundw
      case rel => exact ⟨k + 1, by go_num, by omega, HS1.out, HBW4.out⟩
      case measure => simp [intOf]; omega
    · obtain rfl : k = X.length := by omega
      have HOW := Lib.hid hown
      have HBW := Lib.hid hbw
      clear hown hbw
      go_wp2
      go_ret
      refine ⟨_, rfl, ?_, HBW.out⟩
      have := HOW.out
      rwa [show lvRow X X.length = X.map Hdg.lv from by simp [lvRow]] at this

end Go.Proofs.YtpifhjdbcdcelaaDoor
