/- Texts joined: DnA RefA TbE TgtAb TgtFb TgtGi. -/
import Derived.Test.YtfbaknkmpilllaaGreatDoorQAF
import Derived.Test.YtfbaknkmpilllaaGreatDoorQAJ
import Derived.Test.YtfbaknkmpilllaaGreatDoorQAA
import Derived.Test.YtfbaknkmpilllaaGreatDoorQAG
import Derived.Laws.ResultCell
import Derived.OwnWalk
import Derived.Test.YtfbaknkmpilllaaGreatDoorQAC
import Derived.Test.YtfbaknkmpilllaaGreatDoorQAI
import Derived.Test.YtfbaknkmpilllaaGreatDoorQAE
import Derived.Maps.OwnSet
import Derived.DeepKeys4
import Derived.Lib.SliceRun
import Derived.BigQuiet
import Derived.BigRegion
import Derived.Maps.OwnOps
import Derived.Deep.AppendLies
import Derived.WalkSpells
import Derived.Lib.MinMax
import Derived.Laws.AppendOwnNone
import Derived.Deep.RegionLaw
import Derived.Lib.OthersKept
namespace Go.Proofs.YtfbaknkmpilllaaGreatDoor
open Go.RowKit
set_option linter.unusedSimpArgs false
set_option linter.unusedVariables false
set_option maxRecDepth 100000
theorem emp_yes {X : ByteArray} (h : X.data.toList = []) : X.toList.isEmpty = true ∧ (X.toList == []) = true := by
  rw [ByteArray.toList_eq, h]; exact ⟨rfl, rfl⟩
theorem emp_no {X : ByteArray} (h : ¬ X.data.toList = []) : X.toList.isEmpty = false ∧ (X.toList == []) = false := by
  rw [ByteArray.toList_eq]
  cases hx : X.data.toList with
  | nil => exact absurd hx h
  | cons b l => exact ⟨rfl, rfl⟩
def NmRel (s : ByteArray) (w : World) (I : Nat) (z : Value) (wr : World) : Prop :=
  ∃ k : Nat, z = .string ⟨#[]⟩ ∧ k ≤ s.size ∧ wr.heap[I]? = some (.stringIter s k) ∧ Below w.heap.size w wr ∧ badN (s.data.toList.drop k) = badN s.data.toList
theorem badN_cons (b : UInt8) (l : List UInt8) : badN (b :: l) = (b == 91 || b == 93 || b == 10 || b == 0 || badN l) := rfl
theorem badN_high : ∀ (m l : List UInt8), (∀ b ∈ m, 128 ≤ b.toNat) → badN (m ++ l) = badN l
  | [], _, _ => rfl
  | b :: m, l, h => by
    have hb := h b (by simp)
    rw [List.cons_append, badN_cons, badN_high m l (fun x hx => h x (by simp [hx]))]
    have h1 : (b == 91) = false := by rw [beq_eq_false_iff_ne]; rintro rfl; exact absurd hb (by decide)
    have h2 : (b == 93) = false := by rw [beq_eq_false_iff_ne]; rintro rfl; exact absurd hb (by decide)
    have h3 : (b == 10) = false := by rw [beq_eq_false_iff_ne]; rintro rfl; exact absurd hb (by decide)
    have h4 : (b == 0) = false := by rw [beq_eq_false_iff_ne]; rintro rfl; exact absurd hb (by decide)
    rw [h1, h2, h3, h4]
    rfl
/-- A rune goes by that is none of the four. -/
theorem badN_rune (s : ByteArray) (k : Nat) (h : k < s.size) (hb : (s[k] == 91 || s[k] == 93 || s[k] == 10 || s[k] == 0) = false) : badN (s.data.toList.drop k) = badN (s.data.toList.drop (k + (Utf8.decode s k).2)) := by
  have h2 := decode_tail s k h
  have h1 := (decode_step s k h)
  obtain ⟨j, hj⟩ : ∃ j, (Utf8.decode s k).2 = j + 1 := ⟨(Utf8.decode s k).2 - 1, by omega⟩
  rw [hj] at h2 ⊢
  have hl : s.data.toList.length = s.size := by simp
  rw [get_list s k h, badN_cons, hb, Bool.false_or]
  have e : s.data.toList.drop (k + 1) = (s.data.toList.drop (k + 1)).take j ++ s.data.toList.drop (k + (j + 1)) := by
    have e3 : s.data.toList.drop (k + (j + 1)) = (s.data.toList.drop (k + 1)).drop j := by rw [List.drop_drop]; congr 1; omega
    rw [e3, List.take_append_drop]
  rw [e]
  refine badN_high _ _ ?_
  intro b hb2
  obtain ⟨i, hi, rfl⟩ := List.mem_iff_getElem.1 hb2
  rw [List.length_take, List.length_drop] at hi
  have h3 := h2.2 (i + 1) (by omega) (by omega)
  rw [get!_list s (k + (i + 1)) (by omega)] at h3
  rw [List.getElem_take, List.getElem_drop]
  have e2 : k + 1 + i = k + (i + 1) := by omega
  simp only [e2]
  exact h3
set_option maxHeartbeats 8000000 in
theorem defName_any (s : ByteArray) (w : World) (hs : s.size ≤ 17592186044416) :
    Calls Tryz.prog 146 #[.string s] w fun e w' => e = .returned (.tuple #[.string ⟨(dnL s.data.toList).1.toArray⟩, .bool (dnL s.data.toList).2]) ∧ Below w.heap.size w w' := by
  have cf := fun w1 => fold_any s w1 hs
  rw [foldB_segs] at cf
  have CF := Lib.hid cf
  clear cf
  go_enter Tryz.func146, Tryz.ntmps146
  go_wp2_with fail
  go_loopw [2] (fun z wr => NmRel s w w.heap.size z wr) (fun _ wr => s.size - wr.iterPos w.heap.size)
  case atStart => exact ⟨0, rfl, Nat.zero_le _, World.iter_heap w s 0, (Below.refl _ w).alloc (Nat.le_refl _) _, by simp⟩
  case round =>
    obtain ⟨k, rfl, hk, hit, hbw, hsz⟩ := hrel
    by_cases hp : k < s.size
    · have hnx : ∀ ty, (Instr.next (.pointer (some ⟨w.heap.size, 0, none⟩)) true ty).run Tryz.prog wr = _ := fun ty => Lib.run_next_any_at wr w.heap.size s k ty hit hp
      have hit2 := Lib.iterAt_heap wr w.heap.size s k (k + (Utf8.decode s k).2) hit
      have hbw2 := Lib.below_iterAt hbw (k := w.heap.size) (by omega) s (k + (Utf8.decode s k).2)
      have Hit := Lib.hid hit
      have hdt := (decode_tail s k hp).1
      have hds := decode_step s k hp
      have q91 := rune_is s k hp 91 (by decide)
      have q93 := rune_is s k hp 93 (by decide)
      have q10 := rune_is s k hp 10 (by decide)
      have q0 := rune_is s k hp 0 (by decide)
      clear hit hbw
      cases hg : (s[k] == 91 || s[k] == 93 || s[k] == 10 || s[k] == 0) with
      | true =>
        have HB := Lib.hid (show badN s.data.toList = true from by rw [← hsz, get_list s k hp, badN_cons, hg]; rfl)
        have hor : s[k] = 91 ∨ s[k] = 93 ∨ s[k] = 10 ∨ s[k] = 0 := by simpa [or_assoc] using hg
        have HR := Lib.hid (show dnL s.data.toList = ([], false) from by unfold dnL; rw [if_pos (by rw [HB.out]; simp)])
        clear hsz hg hdt hds HB
        rcases hor with h | h | h | h
        · have n1 : ((Utf8.decode s k).1 : Int) == 91 := by have := q91.2 h; simp at this ⊢; omega
          rw [h] at *
          have hn1 : (((Utf8.decode s k).1 : Int) == 91) = true := n1
          clear q91 q93 q10 q0 h n1
          go_wp2
          go_ret2
          exact ⟨by rw [HR.out]; rfl, hbw2⟩
        · have n0 : (((Utf8.decode s k).1 : Int) == 91) = false := by have := q93.2 h; simp at this ⊢; omega
          have n1 : (((Utf8.decode s k).1 : Int) == 93) = true := by have := q93.2 h; simp at this ⊢; omega
          clear q91 q93 q10 q0 h
          go_wp2
          go_ret2
          exact ⟨by rw [HR.out]; rfl, hbw2⟩
        · have n0 : (((Utf8.decode s k).1 : Int) == 91) = false := by have := q10.2 h; simp at this ⊢; omega
          have n1 : (((Utf8.decode s k).1 : Int) == 93) = false := by have := q10.2 h; simp at this ⊢; omega
          have n2 : (((Utf8.decode s k).1 : Int) == 10) = true := by have := q10.2 h; simp at this ⊢; omega
          clear q91 q93 q10 q0 h
          go_wp2
          go_ret2
          exact ⟨by rw [HR.out]; rfl, hbw2⟩
        · have n0 : (((Utf8.decode s k).1 : Int) == 91) = false := by have := q0.2 h; simp at this ⊢; omega
          have n1 : (((Utf8.decode s k).1 : Int) == 93) = false := by have := q0.2 h; simp at this ⊢; omega
          have n2 : (((Utf8.decode s k).1 : Int) == 10) = false := by have := q0.2 h; simp at this ⊢; omega
          have n3 : (((Utf8.decode s k).1 : Int) == 0) = true := by have := q0.2 h; simp at this ⊢; omega
          clear q91 q93 q10 q0 h
          go_wp2
          go_ret2
          exact ⟨by rw [HR.out]; rfl, hbw2⟩
      | false =>
        have HS := Lib.hid (show badN (s.data.toList.drop (k + (Utf8.decode s k).2)) = badN s.data.toList from by rw [← badN_rune s k hp hg, hsz])
        have hg2 : ¬ s[k] = 91 ∧ ¬ s[k] = 93 ∧ ¬ s[k] = 10 ∧ ¬ s[k] = 0 := by
          simp only [Bool.or_eq_false_iff, beq_eq_false_iff_ne, ne_eq] at hg
          exact ⟨hg.1.1.1, hg.1.1.2, hg.1.2, hg.2⟩
        have n0 : (((Utf8.decode s k).1 : Int) == 91) = false := by have := mt q91.1 hg2.1; simp at this ⊢; omega
        have n1 : (((Utf8.decode s k).1 : Int) == 93) = false := by have := mt q93.1 hg2.2.1; simp at this ⊢; omega
        have n2 : (((Utf8.decode s k).1 : Int) == 10) = false := by have := mt q10.1 hg2.2.2.1; simp at this ⊢; omega
        have n3 : (((Utf8.decode s k).1 : Int) == 0) = false := by have := mt q0.1 hg2.2.2.2; simp at this ⊢; omega
        have HD := Lib.hid (And.intro hdt hds)
        clear hsz hg hg2 q91 q93 q10 q0 hdt hds
        go_wp2
        go_roundw
        case rel => exact ⟨k + (Utf8.decode s k).2, rfl, HD.out.1, hit2, hbw2, HS.out⟩
        case measure => have := HD.out; simp only [World.iterPos, hit2, Hit.out]; omega
    · have hnx : ∀ ty, (Instr.next (.pointer (some ⟨w.heap.size, 0, none⟩)) true ty).run Tryz.prog wr = _ := fun ty => Lib.run_next_end_at wr w.heap.size s k ty hit hp
      have e : s.data.toList.drop k = [] := List.drop_eq_nil_of_le (by simp; omega)
      rw [e] at hsz
      have hbad : badN s.data.toList = false := hsz.symm
      have HD := Lib.hid (show dnL s.data.toList = if (foldL s.data.toList).isEmpty || decide (60 < (foldL s.data.toList).length) then ([], false) else (foldL s.data.toList, true) from by unfold dnL; rw [hbad, Bool.or_false])
      clear e hsz hbad
      generalize foldL s.data.toList = F at *
      obtain ⟨X, hX, rfl⟩ := text_of' F
      rw [hX] at CF
      have hlen : X.data.toList.length = X.size := by simp
      by_cases h0 : X.data.toList = []
      · obtain ⟨e1, e2⟩ := emp_yes h0
        have HR := Lib.hid (show dnL s.data.toList = ([], false) from by rw [HD.out, h0]; rfl)
        clear HD h0 hlen hX
        go_wp2_with fail
        refine (CF.out _).mono ?_
        rintro e w1 ⟨rfl, b1⟩
        go_wp2
        go_ret2
        exact ⟨by rw [HR.out]; rfl, hbw.then b1⟩
      · obtain ⟨e1, e2⟩ := emp_no h0
        by_cases h6 : 60 < X.size
        · have n1 : decide ((X.size : Int) > 60) = true := by simp; omega
          have n2 : (60 : Int) < (X.size : Int) := by omega
          have HR := Lib.hid (show dnL s.data.toList = ([], false) from by rw [HD.out, if_pos (by rw [hlen]; simp [h6])])
          clear HD h6 h0 hlen hX
          go_wp2_with fail
          refine (CF.out _).mono ?_
          rintro e w1 ⟨rfl, b1⟩
          go_wp2
          go_ret2
          exact ⟨by rw [HR.out]; rfl, hbw.then b1⟩
        · have n1 : decide ((X.size : Int) > 60) = false := by simp; omega
          have n2 : ¬ (60 : Int) < (X.size : Int) := by omega
          have HR := Lib.hid (show dnL s.data.toList = (X.data.toList, true) from by rw [HD.out, if_neg (by rw [hlen]; cases h : X.data.toList with | nil => exact absurd h h0 | cons b l => simp; omega)])
          clear HD h6 h0 hlen hX
          go_wp2_with fail
          refine (CF.out _).mono ?_
          rintro e w1 ⟨rfl, b1⟩
          go_wp2
          go_ret2
          exact ⟨by rw [HR.out]; show _ = Ending.returned (.tuple #[.string ⟨X.data.toList.toArray⟩, .bool true]); rw [Lib.mk_data]; rfl, hbw.then b1⟩
def dfV (x : Dfn) : Value := .agg #[.string ⟨x.nm.toArray⟩, .string ⟨x.url.toArray⟩, .string ⟨x.ttl.toArray⟩, .string ⟨x.txt.toArray⟩, .bool x.nt]
def DfAt (w : World) (g : Nat) (x : Dfn) : Prop := w.heap[g]? = some (.cells #[.string ⟨x.nm.toArray⟩, .string ⟨x.url.toArray⟩, .string ⟨x.ttl.toArray⟩, .string ⟨x.txt.toArray⟩, .bool x.nt] 43 (0, 0))
theorem DfAt.below {w w' : World} {g : Nat} {b : Dfn} (h : DfAt w g b) (hb : Below w.heap.size w w') : DfAt w' g b := (hb.block g (Array.getElem?_eq_some_iff.1 h).1).trans h
theorem DfAt.cells {w : World} {g : Nat} {x : Dfn} (h : DfAt w g x) : w.cell? ⟨g, 0, none⟩ = some (.string ⟨x.nm.toArray⟩) ∧ w.cell? ⟨g, 1, none⟩ = some (.string ⟨x.url.toArray⟩) ∧ w.cell? ⟨g, 2, none⟩ = some (.string ⟨x.ttl.toArray⟩) ∧
    w.cell? ⟨g, 3, none⟩ = some (.string ⟨x.txt.toArray⟩) ∧ w.cell? ⟨g, 4, none⟩ = some (.bool x.nt) ∧ ∀ i, w.frozen? ⟨g, i, none⟩ = false := by
  unfold DfAt at h
  refine ⟨?_, ?_, ?_, ?_, ?_, fun i => by simp [World.frozen?, h]⟩
  · rw [cell_of_row w _ 0 _ _ (0, 0) h]; rfl
  · rw [cell_of_row w _ 1 _ _ (0, 0) h]; rfl
  · rw [cell_of_row w _ 2 _ _ (0, 0) h]; rfl
  · rw [cell_of_row w _ 3 _ _ (0, 0) h]; rfl
  · rw [cell_of_row w _ 4 _ _ (0, 0) h]; rfl
/-- All five cells set anew. -/
theorem DfAt.set {w : World} {g : Nat} {b : Dfn} (h : DfAt w g b) (y : Dfn) :
    DfAt (((((w.setCell ⟨g, 0, none⟩ (.string ⟨y.nm.toArray⟩)).setCell ⟨g, 1, none⟩ (.string ⟨y.url.toArray⟩)).setCell ⟨g, 2, none⟩ (.string ⟨y.ttl.toArray⟩)).setCell ⟨g, 3, none⟩ (.string ⟨y.txt.toArray⟩)).setCell ⟨g, 4, none⟩ (.bool y.nt)) g y := by
  unfold DfAt at *
  simp [World.setCell, Array.getElem?_modify, h]
theorem below_set5 {B : Nat} {w0 w : World} {g : Nat} (h : Below B w0 w) (hg : B ≤ g) (u0 u1 u2 u3 u4 : Value) :
    Below B w0 (((((w.setCell ⟨g, 0, none⟩ u0).setCell ⟨g, 1, none⟩ u1).setCell ⟨g, 2, none⟩ u2).setCell ⟨g, 3, none⟩ u3).setCell ⟨g, 4, none⟩ u4) :=
  ((((h.setCell (p := ⟨g, 0, none⟩) hg u0).setCell (p := ⟨g, 1, none⟩) hg u1).setCell (p := ⟨g, 2, none⟩) hg u2).setCell (p := ⟨g, 3, none⟩) hg u3).setCell (p := ⟨g, 4, none⟩) hg u4
theorem dfAt_zero (w : World) : DfAt (w.alloc (.cells #[.string ⟨#[]⟩, .string ⟨#[]⟩, .string ⟨#[]⟩, .string ⟨#[]⟩, .bool false] 43)) w.heap.size noDfn := heap_alloc_new w _
theorem ret_df {fn : Func} {p u : Tmp} (hres : fn.results = #[.cell p 43, .tmp u]) {W : World} {g : Nat} {b : Dfn} (h : DfAt W g b) {c : Value} {tmps : Array Value} (h2 : tmps.getD p undef = .pointer (some ⟨g, 0, none⟩)) (h3 : tmps.getD u undef = c) :
    (results fn tmps).run Tryz.prog W = .ok (.tuple #[dfV b, c]) W := by
  obtain ⟨c0, c1, c2, c3, c4, _⟩ := h.cells
  rw [results_cell_tmp hres, h2, h3]
  go_simp
  rfl
def dfTib (x : Dfn × Bool) : Value := .tuple #[dfV x.1, .bool x.2]
end Go.Proofs.YtfbaknkmpilllaaGreatDoor
namespace Go.Proofs.YtfbaknkmpilllaaGreatDoor
open Go.RowKit
set_option linter.unusedSimpArgs false
set_option linter.unusedVariables false
set_option maxRecDepth 100000
end Go.Proofs.YtfbaknkmpilllaaGreatDoor
namespace Go.Proofs.YtfbaknkmpilllaaGreatDoor
open Go.RowKit
set_option linter.unusedSimpArgs false
set_option linter.unusedVariables false
set_option maxRecDepth 100000
end Go.Proofs.YtfbaknkmpilllaaGreatDoor
namespace Go.Proofs.YtfbaknkmpilllaaGreatDoor
open Go.RowKit
set_option linter.unusedSimpArgs false
set_option linter.unusedVariables false
set_option maxRecDepth 100000
end Go.Proofs.YtfbaknkmpilllaaGreatDoor

namespace Go.Proofs.YtfbaknkmpilllaaGreatDoor
open Go.RowKit
set_option linter.unusedSimpArgs false
set_option linter.unusedVariables false
end Go.Proofs.YtfbaknkmpilllaaGreatDoor
namespace Go.Proofs.YtfbaknkmpilllaaGreatDoor
open Go.RowKit
set_option linter.unusedSimpArgs false
set_option linter.unusedVariables false
/-- What stands of the two tables of unicode/utf8. -/
def Tabs (w : World) : Prop := Lib.Utf8Tabs 5 6 w
theorem Tabs.below {w w' : World} (h : Tabs w) (hb : Below w.heap.size w w') : Tabs w' := Utf8Tabs_below h hb
end Go.Proofs.YtfbaknkmpilllaaGreatDoor

namespace Go.Proofs.YtfbaknkmpilllaaGreatDoor
open Go.RowKit Go.Maps
set_option linter.unusedSimpArgs false
set_option linter.unusedVariables false
set_option maxRecDepth 100000
def tbkLit (n : List UInt8) (b : Bool) : Lit := .string (keyBytes [.string n, .bool b])
def keyV (n : List UInt8) (b : Bool) : Value := .agg #[.string ⟨n.toArray⟩, .bool b]
theorem tbkeyLaw : Keyed Tryz.prog 74 := Keyed.of_law (deep_law_laid laidOut (m := 2) (by omega) (of_decide_eq_true (by kernel_rfl)) (by kernel_rfl) (by kernel_rfl))
theorem tbtypes_two : ∃ m, Tryz.prog.types.size = m + 2 := ⟨Tryz.prog.types.size - 2, by have : 2 ≤ Tryz.prog.types.size := of_decide_eq_true (by kernel_rfl); omega⟩
theorem keyOf_key (n : List UInt8) (b : Bool) (h : n.length ≤ maxLen) : keyOf Tryz.prog 74 (keyV n b) = some (tbkLit n b) := by
  obtain ⟨m, hm⟩ := tbtypes_two
  have hs : (⟨n.toArray⟩ : ByteArray).size ≤ maxLen := by rw [str_size]; exact h
  have hk : Tryz.prog.keyType 74 = true := by kernel_rfl
  have hf : (keyV n b).formed Tryz.prog 74 = true := by
    unfold keyV Value.formed
    rw [Tryz.underlying74]
    rfl
  have h1 : Tryz.prog.keyLits (m + 2) 9 [.string ⟨n.toArray⟩] = some [.string n] := by
    unfold Program.keyLits
    rw [Tryz.underlying9]
    simp only
    rw [if_pos hs]
  have h2 : Tryz.prog.keyLits (m + 2) 4 [.bool b] = some [.bool b] := by
    unfold Program.keyLits
    rw [Tryz.underlying4]
  have hc : Tryz.prog.cellsOf 74 = 2 := by kernel_rfl
  have hc1 : Tryz.prog.cellsOf 9 = 1 := by kernel_rfl
  have hc2 : Tryz.prog.cellsOf 4 = 1 := by kernel_rfl
  have h3 : Tryz.prog.keyLits (m + 2 + 1) 74 [.string ⟨n.toArray⟩, .bool b] = some [.string n, .bool b] := by
    unfold Program.keyLits
    rw [Tryz.underlying74]
    simp [hc, hc1, hc2, h1, h2]
  unfold keyOf
  rw [Tryz.underlying74]
  simp only
  rw [hk, hf, hm, show (keyV n b).cells.toList = [.string ⟨n.toArray⟩, .bool b] from rfl, h3]
  rfl
theorem tbkLit_key {n : List UInt8} {b : Bool} (h : n.length ≤ maxLen) : WideAt.IsKeyLit (tbkLit n b) := tbkeyLaw.key (keyOf_key n b h)
theorem tbkLit_inj {n m : List UInt8} {b c : Bool} (h : n.length ≤ maxLen) (h2 : m.length ≤ maxLen) (e : tbkLit n b = tbkLit m c) : n = m ∧ b = c := by
  have h3 := tbkeyLaw.inj (keyOf_key n b h) (by rw [e]; exact keyOf_key m c h2)
  unfold keyV at h3
  simp at h3
  exact h3
abbrev TbDU := DataW Unit
def tbF (m : TbDU) (i : Nat) : List Dfn → TbDU
  | [] => m
  | x :: D => tbF (m.put (tbkLit x.nm x.nt) (.lit (.int .i64 i))) (i + 1) D
def tbD (D : List Dfn) : TbDU := tbF (.map []) 0 D
theorem tbF_snoc (x : Dfn) : ∀ (D : List Dfn) (m : TbDU) (i : Nat), tbF m i (D ++ [x]) = (tbF m i D).put (tbkLit x.nm x.nt) (.lit (.int .i64 ((i + D.length : Nat) : Int)))
  | [], m, i => rfl
  | y :: D, m, i => by
    rw [List.cons_append, tbF, tbF_snoc x D, tbF, List.length_cons, show i + 1 + D.length = i + (D.length + 1) from by omega]
theorem tbD_snoc (D : List Dfn) (x : Dfn) : tbD (D ++ [x]) = (tbD D).put (tbkLit x.nm x.nt) (.lit (.int .i64 (D.length : Int))) := by
  unfold tbD
  rw [tbF_snoc, Nat.zero_add]
/-- Whether there is one of that name and kind. -/
def dfHas (D : List Dfn) (n : List UInt8) (b : Bool) : Bool := D.any fun x => decide (x.nm = n) && (x.nt == b)
def NmOk (D : List Dfn) : Prop := ∀ x ∈ D, x.nm.length ≤ maxLen
def Uniq : List Dfn → Prop
  | [] => True
  | x :: D => dfHas D x.nm x.nt = false ∧ Uniq D
theorem has_tbF {n : List UInt8} {b : Bool} (hn : n.length ≤ maxLen) : ∀ (D : List Dfn) (m : TbDU) (i : Nat), IsMap m → NmOk D → Maps.has (tbF m i D) (tbkLit n b) = (Maps.has m (tbkLit n b) || dfHas D n b)
  | [], m, i, hm, h => by simp [tbF, dfHas]
  | x :: D, m, i, hm, h => by
    have hx := h x (by simp)
    rw [tbF, has_tbF hn D _ _ (hm.put _ _) (fun y hy => h y (by simp [hy]))]
    by_cases e : x.nm = n ∧ x.nt = b
    · obtain ⟨rfl, rfl⟩ := e
      rw [has_put_same hm (tbkLit_key hx)]
      simp [dfHas]
    · have hne : tbkLit n b ≠ tbkLit x.nm x.nt := fun e2 => e (by have := tbkLit_inj hn hx e2; exact ⟨this.1.symm, this.2.symm⟩)
      rw [has_put_other hne]
      have h9 : (decide (x.nm = n) && (x.nt == b)) = false := by
        cases h1 : decide (x.nm = n) && (x.nt == b) with
        | false => rfl
        | true =>
          simp at h1
          exact absurd h1 e
      show _ = (_ || ((decide (x.nm = n) && (x.nt == b)) || dfHas D n b))
      rw [h9, Bool.false_or]
theorem has_tbD {n : List UInt8} {b : Bool} (hn : n.length ≤ maxLen) {D : List Dfn} (h : NmOk D) : Maps.has (tbD D) (tbkLit n b) = dfHas D n b := by
  unfold tbD
  rw [has_tbF hn D _ _ isMap_empty h]
  rfl
theorem at_tbF_other {n : List UInt8} {b : Bool} (hn : n.length ≤ maxLen) (z : TbDU) : ∀ (D : List Dfn) (m : TbDU) (i : Nat), NmOk D → dfHas D n b = false → (tbF m i D).atKey (tbkLit n b) z = m.atKey (tbkLit n b) z
  | [], _, _, _, _ => rfl
  | x :: D, m, i, h, hh => by
    have hx := h x (by simp)
    have h2 : (decide (x.nm = n) && (x.nt == b)) = false ∧ dfHas D n b = false := by
      have : ((decide (x.nm = n) && (x.nt == b)) || dfHas D n b) = false := hh
      simpa using this
    have hne : tbkLit n b ≠ tbkLit x.nm x.nt := fun e2 => by
      have := tbkLit_inj hn hx e2
      have h1 := h2.1
      rw [← this.1, ← this.2] at h1
      simp at h1
    rw [tbF, at_tbF_other hn z D _ _ (fun y hy => h y (by simp [hy])) h2.2, atKey_put_other hne]
theorem at_tbF (z : TbDU) : ∀ (D : List Dfn) (m : TbDU) (i j : Nat) (hj : j < D.length), IsMap m → NmOk D → Uniq D → (tbF m i D).atKey (tbkLit D[j].nm D[j].nt) z = .lit (.int .i64 ((i + j : Nat) : Int))
  | x :: D, m, i, 0, _, hm, h, hu => by
    have hx := h x (by simp)
    show (tbF (m.put _ _) (i + 1) D).atKey (tbkLit x.nm x.nt) z = _
    rw [at_tbF_other hx z D _ _ (fun y hy => h y (by simp [hy])) hu.1, atKey_put_same hm (tbkLit_key hx)]
    rfl
  | x :: D, m, i, j + 1, hj, hm, h, hu => by
    have := at_tbF z D (m.put (tbkLit x.nm x.nt) (.lit (.int .i64 i))) (i + 1) j (by simpa using hj) (hm.put _ _) (fun y hy => h y (by simp [hy])) hu.2
    rw [show i + 1 + j = i + (j + 1) from by omega] at this
    exact this
theorem at_tbD {D : List Dfn} (z : TbDU) (h : NmOk D) (hu : Uniq D) {j : Nat} (hj : j < D.length) : (tbD D).atKey (tbkLit D[j].nm D[j].nt) z = .lit (.int .i64 (j : Int)) := by
  have := at_tbF z D (.map []) 0 j hj isMap_empty h hu
  rw [Nat.zero_add] at this
  exact this
theorem uniq_snoc {x : Dfn} : ∀ {D : List Dfn}, Uniq D → dfHas D x.nm x.nt = false → Uniq (D ++ [x])
  | [], _, _ => ⟨rfl, trivial⟩
  | y :: D, h, hh => by
    have h2 : (decide (y.nm = x.nm) && (y.nt == x.nt)) = false ∧ dfHas D x.nm x.nt = false := by
      have : ((decide (y.nm = x.nm) && (y.nt == x.nt)) || dfHas D x.nm x.nt) = false := hh
      simpa using this
    refine ⟨?_, uniq_snoc h.2 h2.2⟩
    show dfHas (D ++ [x]) y.nm y.nt = false
    unfold dfHas
    rw [List.any_append]
    have h1 := h.1
    unfold dfHas at h1
    rw [h1]
    have h3 := h2.1
    simp at h3 ⊢
    intro e
    have := h3 e.symm
    intro e2
    exact this e2.symm
/-- The one of that name and kind, and where it is. -/
theorem dfHas_at {D : List Dfn} {n : List UInt8} {b : Bool} (h : dfHas D n b = true) : ∃ j, ∃ hj : j < D.length, D[j].nm = n ∧ D[j].nt = b ∧ ∀ i (hi : i < j), ¬ (D[i].nm = n ∧ D[i].nt = b) := by
  induction D with
  | nil => cases h
  | cons x D ih =>
    by_cases e : x.nm = n ∧ x.nt = b
    · exact ⟨0, by simp, e.1, e.2, fun i hi => by omega⟩
    · have h2 : dfHas D n b = true := by
        have h1 : ((decide (x.nm = n) && (x.nt == b)) || dfHas D n b) = true := h
        rw [Bool.or_eq_true] at h1
        rcases h1 with h1 | h1
        · simp at h1
          exact absurd h1 e
        · exact h1
      obtain ⟨j, hj, e1, e2, h3⟩ := ih h2
      refine ⟨j + 1, by simpa using hj, e1, e2, fun i hi => ?_⟩
      cases i with
      | zero => exact e
      | succ i => exact h3 i (by omega)
end Go.Proofs.YtfbaknkmpilllaaGreatDoor
namespace Go.Proofs.YtfbaknkmpilllaaGreatDoor
open Go.RowKit Go.Maps
set_option linter.unusedSimpArgs false
set_option linter.unusedVariables false
set_option maxRecDepth 100000
/-- A table: the list of its definitions, a row of its own; its map. -/
structure TableIs (w : World) (B b : Nat) (v m : Value) (D : List Dfn) : Prop where
  blk : w.heap[b]? = some (.cells #[v, m] 40 (0, 0))
  base : B ≤ b
  row : w.ownsRow B 43 5 v D.length (flt dfC D)
  map : (m = .map none ∧ D = []) ∨ ∃ g, m = .map (some g) ∧ B ≤ g ∧ w.ownsMap Tryz.prog 74 (plainElem (H := Unit) Tryz.prog 3) g D.length (tbD D)
  nm : NmOk D
  uq : Uniq D
theorem map_block {w w' : World} {P : Program} {k : TypeId} {R : Value → Option (TbDU × List MemPlace)} {g n : Nat} {D : TbDU} (h : w.ownsMap P k R g n D) (e : w'.heap[g]? = w.heap[g]?) : w'.ownsMap P k R g n D := by
  obtain ⟨es, cl, hb, r⟩ := h
  exact ⟨es, cl, e.trans hb, r⟩
theorem TableIs.below {w w' : World} {B b : Nat} {v m : Value} {D : List Dfn} (h : TableIs w B b v m D) (hb : Below w.heap.size w w') : TableIs w' B b v m D := by
  refine ⟨(hb.block b (Array.getElem?_eq_some_iff.1 h.blk).1).trans h.blk, h.base, ownsRow_below h.row hb, ?_, h.nm, h.uq⟩
  rcases h.map with h1 | ⟨g, e, hg, hm⟩
  · exact .inl h1
  · exact .inr ⟨g, e, hg, map_block hm (hb.block g hm.lt)⟩
theorem TableIs.new {w : World} {B b : Nat} (h : w.heap[b]? = some (.cells #[.slice none 0 0, .map none] 40 (0, 0))) (hB : B ≤ b) : TableIs w B b (.slice none 0 0) (.map none) [] :=
  ⟨h, hB, World.ownsRow_nil _ _ _ _, .inl ⟨rfl, rfl⟩, fun x hx => by simp at hx, trivial⟩
/-- What the table's own doings leave as it was. -/
def TbTurn (w w' : World) (v : Value) : Prop := ∀ (g : Nat) (cs : Array Value) (t : TypeId) (fz : Nat × Nat), w.heap[g]? = some (.cells cs t fz) → t ≠ 40 → v.ownBlock ≠ some g → w'.heap[g]? = some (.cells cs t fz)
theorem TbTurn.row {w w' : World} {v u : Value} (h : TbTurn w w' v) {B : Nat} {e : TypeId} {s n : Nat} {xs : List Value} (k : w.ownsRow B e s u n xs) (he : e ≠ 40) (ha : ∀ g, u.ownBlock = some g → v.ownBlock ≠ some g) : w'.ownsRow B e s u n xs := by
  refine ⟨k.1, ?_⟩
  rcases k.2 with hn | ⟨g, cap, cur, rfl, hB, hg, rest⟩
  · exact .inl hn
  · exact .inr ⟨g, cap, cur, rfl, hB, h _ _ _ _ hg he (ha g rfl), rest⟩
end Go.Proofs.YtfbaknkmpilllaaGreatDoor
namespace Go.Proofs.YtfbaknkmpilllaaGreatDoor
open Go.RowKit Go.Maps
set_option linter.unusedSimpArgs false
set_option linter.unusedVariables false
set_option maxRecDepth 100000
def dfV' (x : Dfn) : Value := .agg #[.string ⟨x.nm.toArray⟩, .string ⟨x.url.toArray⟩, .string ⟨x.ttl.toArray⟩, .string ⟨x.txt.toArray⟩, .bool x.nt]
theorem zeroInt (w : World) : (zeroValue 3).run Tryz.prog w = .ok (.int .i64 0) w := by kernel_rfl
theorem look_any {w : World} {B b : Nat} {v m : Value} {D : List Dfn} (h : TableIs w B b v m D) {n : List UInt8} {t : Bool} (hn : n.length ≤ maxLen) :
    ∃ c : Int, (∀ w' : World, (∀ g, g < w.heap.size → w'.heap[g]? = w.heap[g]?) → (Instr.lookup 38 m (keyV n t) true).run Tryz.prog w' = .ok (.tuple #[.int .i64 c, .bool (dfHas D n t)]) w') ∧ (∀ j (hj : j < D.length), D[j].nm = n → D[j].nt = t → c = j) := by
  have hkey := keyOf_key n t hn
  rcases h.map with ⟨rfl, rfl⟩ | ⟨g, rfl, hg, hm⟩
  · exact ⟨0, fun w' _ => (look_nil (w := w') true tbkeyLaw Tryz.underlying38 (zeroInt _) hkey).trans rfl, fun j hj => by simp at hj⟩
  · have one : ∀ w' : World, (∀ g, g < w.heap.size → w'.heap[g]? = w.heap[g]?) → ∃ c : Int, (Instr.lookup 38 (.map (some g)) (keyV n t) true).run Tryz.prog w' = .ok (.tuple #[.int .i64 c, .bool (dfHas D n t)]) w' ∧ (tbD D).atKey (tbkLit n t) (.lit (.int .i64 0)) = .lit (.int .i64 c) := by
      intro w' hh
      have hm' := map_block hm (hh g hm.lt)
      obtain ⟨u, ps, hrun, hu⟩ := hm'.look_ok tbkeyLaw Tryz.underlying38 (zeroInt _) (zd := .lit (.int .i64 0)) (zp := []) (plainElem_int Tryz.underlying3 (by decide)) hkey
      obtain ⟨c, rfl, hc, hwc⟩ := plainElem_int_inv Tryz.underlying3 hu
      rw [has_tbD hn h.nm] at hrun
      exact ⟨c, hrun, congrArg Prod.fst hc⟩
    obtain ⟨c, _, hc⟩ := one w (fun _ _ => rfl)
    refine ⟨c, fun w' hh => ?_, fun j hj e1 e2 => ?_⟩
    · obtain ⟨c', h1, h2⟩ := one w' hh
      rw [hc] at h2
      injection h2 with h2
      injection h2 with _ h2
      rw [h2]
      exact h1
    · subst e1 e2
      rw [at_tbD _ h.nm h.uq hj] at hc
      injection hc with hc3
      injection hc3 with _ hc4
      exact hc4.symm
set_option maxHeartbeats 4000000 in
theorem add_twice {w : World} {B b : Nat} {v m : Value} {D : List Dfn} (h : TableIs w B b v m D) (x : Dfn) (hx : x.nm.length ≤ maxLen) (hd : dfHas D x.nm x.nt = true) :
    Calls Tryz.prog 19 #[.pointer (some ⟨b, 0, none⟩), dfV' x] w fun e w' => e = .returned (.bool false) ∧ Below w.heap.size w w' := by
  unfold dfV'
  obtain ⟨n, u, t, y, k⟩ := x
  dsimp only at hd hx ⊢
  have c1 : w.cell? ⟨b, 1, none⟩ = some m := (cell_of_row w b 1 _ _ (0, 0) h.blk).trans rfl
  obtain ⟨c, hc, _⟩ := look_any h (n := n) (t := k) hx
  rw [hd] at hc
  unfold keyV at hc
  have HL := Lib.hid hc
  clear hc
  have hbl := (Array.getElem?_eq_some_iff.1 h.blk).1
  go_enter Tryz.func19, Tryz.ntmps19
  go_wp2_with fail
  obtain ⟨w2, hw2⟩ : ∃ w2, w2 = (w.alloc (Obj.cells #[Value.string { data := n.toArray }, Value.string { data := u.toArray }, Value.string { data := t.toArray }, Value.string { data := y.toArray }, Value.bool k] 43)).alloc (Obj.cells #[Value.string { data := n.toArray }, Value.bool k] 74) := ⟨_, rfl⟩
  have hb2 : Below w.heap.size w w2 := by rw [hw2]; exact ((Below.refl _ w).alloc (Nat.le_refl _) _).alloc (by simp) _
  have hrun : ∀ j, (Instr.lookup 38 m (Value.agg #[Value.string { data := n.toArray }, Value.bool k]) true).run Tryz.prog (w2.drewN j) = .ok (.tuple #[.int .i64 c, .bool true]) (w2.drewN j) := fun j => HL.out _ (fun g hg => hb2.block g hg)
  have hrun1 : (Instr.lookup 38 m (Value.agg #[Value.string { data := n.toArray }, Value.bool k]) true).run Tryz.prog w2 = .ok (.tuple #[.int .i64 c, .bool true]) w2 := HL.out _ (fun g hg => hb2.block g hg)
  have hrun2 : (Instr.lookup 38 m (Value.agg #[Value.string { data := n.toArray }, Value.bool k]) true).run Tryz.prog w2.drew = .ok (.tuple #[.int .i64 c, .bool true]) w2.drew := HL.out _ (fun g hg => hb2.block g hg)
  have k1 : w2.cell? ⟨b, 1, none⟩ = some m := (hb2.cell (p := ⟨b, 1, none⟩) hbl).trans c1
  have k2 : w2.cell? ⟨w.heap.size + 1, 0, none⟩ = some (Value.string { data := n.toArray }) := by rw [hw2]; simp
  have k3 : w2.cell? ⟨w.heap.size + 1, 1, none⟩ = some (Value.bool k) := by rw [hw2]; simp
  rw [← hw2]
  clear c1 hw2
  go_quiet (fail)
  go_wp2
  go_ret
  exact ⟨rfl, below_drewN' hb2 _⟩
theorem map_ne {w : World} {P : Program} {k : TypeId} {R : Value → Option (TbDU × List MemPlace)} {g n : Nat} {D : TbDU} (h : w.ownsMap P k R g n D) {g' : Nat} {cs : Array Value} {t : TypeId} {fz : Nat × Nat} (hc : w.heap[g']? = some (.cells cs t fz)) : g' ≠ g := by
  rintro rfl
  obtain ⟨es, cl, hb, _⟩ := h
  rw [hb] at hc
  cases hc
theorem row_ne_map {w : World} {P : Program} {k : TypeId} {R : Value → Option (TbDU × List MemPlace)} {g n : Nat} {D : TbDU} (h : w.ownsMap P k R g n D) {B : Nat} {e : TypeId} {s : Nat} {v : Value} {m : Nat} {xs : List Value} (hv : w.ownsRow B e s v m xs) : v.ownBlock ≠ some g := by
  rcases hv.2 with ⟨rfl, _⟩ | ⟨g1, c1, cur, rfl, _, hb, _⟩
  · simp [Value.ownBlock]
  · intro e
    simp [Value.ownBlock] at e
    exact map_ne h hb e
theorem row_kept {w w' : World} {row : Option Nat} (hg : w.grownBy w' row) {B : Nat} {e : TypeId} {s : Nat} {v : Value} {m : Nat} {xs : List Value} (hv : w.ownsRow B e s v m xs) (hn : ∀ g, v.ownBlock = some g → row ≠ some g) : w'.ownsRow B e s v m xs := by
  refine ⟨hv.1, ?_⟩
  rcases hv.2 with h1 | ⟨g1, c1, cur, rfl, hB, hb, rest⟩
  · exact .inl h1
  · exact .inr ⟨g1, c1, cur, rfl, hB, (hg.block g1 (Array.getElem?_eq_some_iff.1 hb).1 (fun e => hn g1 rfl e.symm)).trans hb, rest⟩
theorem add_end {B b g : Nat} {v : Value} {D : List Dfn} {x : Dfn} {w4 w5 w6 : World} (hB : B ≤ w4.heap.size) (h : TableIs w4 B b v (.map (some g)) D) (hBg : B ≤ g)
    (hm4 : w4.ownsMap Tryz.prog 74 (plainElem (H := Unit) Tryz.prog 3) g D.length (tbD D))
    (hm : w5.ownsMap Tryz.prog 74 (plainElem (H := Unit) Tryz.prog 3) g (D.length + 1) ((tbD D).put (tbkLit x.nm x.nt) (.lit (.int .i64 (D.length : Int))))) (hg5 : w4.grownBy w5 (some g))
    (o : Obj) (g1 cap1 : Nat) (hown : w6.ownsRow B 43 5 (.slice (some ⟨g1, 0, none⟩) (D.length + 1) cap1) (D.length + 1) (flt dfC D ++ dfC x)) (hg6 : (w5.alloc o).grownBy w6 v.ownBlock)
    (hx : x.nm.length ≤ maxLen) (hd : dfHas D x.nm x.nt = false) :
    TableIs (w6.setCell ⟨b, 0, none⟩ (.slice (some ⟨g1, 0, none⟩) (D.length + 1) cap1)) B b (.slice (some ⟨g1, 0, none⟩) (D.length + 1) cap1) (.map (some g)) (D ++ [x]) ∧
      TbTurn w4 (w6.setCell ⟨b, 0, none⟩ (.slice (some ⟨g1, 0, none⟩) (D.length + 1) cap1)) v ∧ Below B w4 (w6.setCell ⟨b, 0, none⟩ (.slice (some ⟨g1, 0, none⟩) (D.length + 1) cap1)) := by
  have hbl := (Array.getElem?_eq_some_iff.1 h.blk).1
  have s5 := hg5.size
  have s5a : (w5.alloc o).heap.size = w5.heap.size + 1 := by show (w5.heap.push _).size = _; simp
  have s6 := hg6.size
  have row5 := row_kept hg5 h.row (fun g2 e1 e2 => row_ne_map hm4 h.row (by rw [e1, e2]))
  have keep : ∀ (g' : Nat) (cs : Array Value) (t : TypeId) (fz : Nat × Nat), w4.heap[g']? = some (.cells cs t fz) → v.ownBlock ≠ some g' → w6.heap[g']? = some (.cells cs t fz) := by
    intro g' cs t fz hc hv
    have hl := (Array.getElem?_eq_some_iff.1 hc).1
    rw [hg6.block g' (by omega) (fun e => hv e.symm), Below.heap_alloc w5 o g' (by omega), hg5.block g' hl (fun e => map_ne hm4 hc (by injection e))]
    exact hc
  have hvb : v.ownBlock ≠ some b := fun e => own_ne h.row h.blk (by decide) e
  have blk6 := keep b _ _ _ h.blk hvb
  have hgb : b ≠ g := map_ne hm4 h.blk
  have hgl := hm.lt
  refine ⟨⟨?_, h.base, ?_, .inr ⟨g, rfl, hBg, ?_⟩, ?_, uniq_snoc h.uq hd⟩, ?_, ?_⟩
  · simp [World.setCell, Array.getElem?_modify, blk6]
  · rw [List.length_append, flt_append, flt_one]
    exact own_set hown blk6 (by decide) 0 _
  · rw [List.length_append, tbD_snoc]
    refine map_block hm ?_
    rw [Below.heap_setCell _ _ _ g (fun e => hgb e.symm), hg6.block g (by omega) (fun e => row_ne_map hm row5 e.symm), Below.heap_alloc w5 o g hgl]
  · intro y hy
    rcases List.mem_append.1 hy with h1 | h1
    · exact h.nm y h1
    · simp at h1
      subst h1
      exact hx
  · intro g' cs t fz hc ht hv
    have hne : g' ≠ b := by
      rintro rfl
      rw [h.blk] at hc
      injection hc with hc
      injection hc with _ hc
      exact ht hc.symm
    rw [Below.heap_setCell _ _ _ g' hne]
    exact keep g' cs t fz hc hv
  · exact ((((Below.refl B w4).grown hg5 hB (fun k hk => by injection hk with hk; omega)).alloc (by omega) o).grown hg6 (by omega) (fun k hk => (row5.lt k hk).1)).setCell h.base _
end Go.Proofs.YtfbaknkmpilllaaGreatDoor
namespace Go.Proofs.YtfbaknkmpilllaaGreatDoor
open Go.RowKit Go.Maps
set_option linter.unusedSimpArgs false
set_option linter.unusedVariables false
set_option maxRecDepth 100000
theorem TbTurn.below {w w' : World} (h : Below w.heap.size w w') (v : Value) : TbTurn w w' v := fun g cs t fz hc _ _ => (h.block g (Array.getElem?_eq_some_iff.1 hc).1).trans hc
theorem TbTurn.trans {a b c : World} {v : Value} (h : TbTurn a b v) (k : TbTurn b c v) : TbTurn a c v := fun g cs t fz hc ht hv => k g cs t fz (h g cs t fz hc ht hv) ht hv
/-- A map of its own is made. -/
theorem add_made {w : World} {B b : Nat} {v : Value} {D : List Dfn} (hB : B ≤ w.heap.size) (hD : D = []) (h : TableIs w B b v (.map none) D) (w' : World) (hw : w' = (w.alloc (.map #[] 0)).setCell ⟨b, 1, none⟩ (.map (some w.heap.size))) :
    TableIs w' B b v (.map (some w.heap.size)) D ∧ w'.ownsMap Tryz.prog 74 (plainElem (H := Unit) Tryz.prog 3) w.heap.size D.length (tbD D) ∧ TbTurn w w' v ∧ Below B w w' ∧
      (∀ (a : Addr) (u : Value), a.block ≠ b → w.cell? a = some u → w'.cell? a = some u) := by
  subst hD
  have hbl := (Array.getElem?_eq_some_iff.1 h.blk).1
  have hm : w'.ownsMap Tryz.prog 74 (plainElem (H := Unit) Tryz.prog 3) w.heap.size ([] : List Dfn).length (tbD []) := by
    rw [hw]
    exact World.ownsMap.setCell (World.ownsMap_made w _ _ _) (by show w.heap.size ≠ b; omega) _
  have blk := (Below.heap_alloc w (.map #[] 0) b hbl).trans h.blk
  have keep : ∀ (g : Nat), g < w.heap.size → g ≠ b → w'.heap[g]? = w.heap[g]? := fun g hg hgb => by
    rw [hw, Below.heap_setCell _ _ _ g hgb, Below.heap_alloc w _ g hg]
  refine ⟨⟨?_, h.base, ?_, .inr ⟨_, rfl, hB, hm⟩, h.nm, h.uq⟩, hm, ?_, ?_, ?_⟩
  · rw [hw]
    simp [World.setCell, Array.getElem?_modify, blk]
  · rw [hw]
    exact own_set (h.row.alloc _) blk (by decide) 1 _
  · intro g cs t fz hc ht hv
    rw [keep g (Array.getElem?_eq_some_iff.1 hc).1 (by
      rintro rfl
      rw [h.blk] at hc
      injection hc with hc
      injection hc with _ hc
      exact ht hc.symm)]
    exact hc
  · rw [hw]
    exact ((Below.refl B w).alloc hB _).setCell h.base _
  · intro a u ha hc
    rw [World.cell?_of_block (keep a.block (World.block_lt_of_cell? _ _ hc) ha)]
    exact hc
set_option maxHeartbeats 4000000 in
theorem add_new {w : World} {B b : Nat} {v m : Value} {D : List Dfn} (hB : B ≤ w.heap.size) (h : TableIs w B b v m D) (x : Dfn) (hx : x.nm.length ≤ maxLen) (hd : dfHas D x.nm x.nt = false) (hl : D.length ≤ 1000) :
    Calls Tryz.prog 19 #[.pointer (some ⟨b, 0, none⟩), dfV' x] w fun e w' => e = .returned (.bool true) ∧ (∃ v' m', TableIs w' B b v' m' (D ++ [x]) ∧ (v'.ownBlock = v.ownBlock ∨ ∃ g, v'.ownBlock = some g ∧ w.heap.size ≤ g)) ∧ TbTurn w w' v ∧ Below B w w' := by
  obtain ⟨i0, hi, hz0, hz1, hz2⟩ := info_parts infoDef
  unfold dfV'
  have hX : x = ⟨x.nm, x.url, x.ttl, x.txt, x.nt⟩ := rfl
  have HX := Lib.hid hX
  have HH := Lib.hid h
  have HD := Lib.hid hd
  have HN := Lib.hid hx
  have hkey := keyOf_key x.nm x.nt hx
  unfold keyV at hkey
  have c0 : w.cell? ⟨b, 0, none⟩ = some v := (cell_of_row w b 0 _ _ (0, 0) h.blk).trans rfl
  have c1 : w.cell? ⟨b, 1, none⟩ = some m := (cell_of_row w b 1 _ _ (0, 0) h.blk).trans rfl
  have hbl := (Array.getElem?_eq_some_iff.1 h.blk).1
  obtain ⟨c, hc, _⟩ := look_any h (n := x.nm) (t := x.nt) hx
  rw [hd] at hc
  unfold keyV at hc
  have HL := Lib.hid hc
  obtain ⟨A, cap, hA, hrow⟩ := EltsAt.own dfC_length h.row
  have HR := Lib.hid hrow
  clear hX hc hx hd h hrow
  subst hA
  generalize x.nm = n at *
  generalize x.url = u at *
  generalize x.ttl = t at *
  generalize x.txt = y at *
  generalize x.nt = k at *
  go_enter Tryz.func19, Tryz.ntmps19
  go_wp2_with fail
  obtain ⟨w2, hw2⟩ : ∃ w2, w2 = (w.alloc (Obj.cells #[Value.string { data := n.toArray }, Value.string { data := u.toArray }, Value.string { data := t.toArray }, Value.string { data := y.toArray }, Value.bool k] 43)).alloc (Obj.cells #[Value.string { data := n.toArray }, Value.bool k] 74) := ⟨_, rfl⟩
  have hb2 : Below w.heap.size w w2 := by rw [hw2]; exact ((Below.refl _ w).alloc (Nat.le_refl _) _).alloc (by simp) _
  have hs2 : w2.heap.size = w.heap.size + 2 := by rw [hw2]; simp
  have hrun : ∀ j, (Instr.lookup 38 m (Value.agg #[Value.string { data := n.toArray }, Value.bool k]) true).run Tryz.prog (w2.drewN j) = .ok (.tuple #[.int .i64 c, .bool false]) (w2.drewN j) := fun j => HL.out _ (fun g hg => hb2.block g hg)
  have hrun1 : (Instr.lookup 38 m (Value.agg #[Value.string { data := n.toArray }, Value.bool k]) true).run Tryz.prog w2 = .ok (.tuple #[.int .i64 c, .bool false]) w2 := HL.out _ (fun g hg => hb2.block g hg)
  have k0 : w2.cell? ⟨b, 0, none⟩ = some (.slice A D.length cap) := (hb2.cell (p := ⟨b, 0, none⟩) hbl).trans c0
  have k1 : w2.cell? ⟨b, 1, none⟩ = some m := (hb2.cell (p := ⟨b, 1, none⟩) hbl).trans c1
  have k2 : w2.cell? ⟨w.heap.size + 1, 0, none⟩ = some (Value.string { data := n.toArray }) := by rw [hw2]; simp
  have k3 : w2.cell? ⟨w.heap.size + 1, 1, none⟩ = some (Value.bool k) := by rw [hw2]; simp
  have x0 : w2.cell? ⟨w.heap.size, 0, none⟩ = some (Value.string { data := n.toArray }) := by rw [hw2]; simp
  have x1 : w2.cell? ⟨w.heap.size, 1, none⟩ = some (Value.string { data := u.toArray }) := by rw [hw2]; simp
  have x2 : w2.cell? ⟨w.heap.size, 2, none⟩ = some (Value.string { data := t.toArray }) := by rw [hw2]; simp
  have x3 : w2.cell? ⟨w.heap.size, 3, none⟩ = some (Value.string { data := y.toArray }) := by rw [hw2]; simp
  have x4 : w2.cell? ⟨w.heap.size, 4, none⟩ = some (Value.bool k) := by rw [hw2]; simp
  rw [← hw2]
  clear c1 c0 hw2
  go_quiet (fail)
  clear hrun hrun1
  obtain ⟨w3, hw3⟩ : ∃ w3, w3 = w2.drewN nq := ⟨_, rfl⟩
  rw [← hw3]
  have hb3 : Below w.heap.size w w3 := by rw [hw3]; exact below_drewN' hb2 _
  have hs3 : w3.heap.size = w.heap.size + 2 := by rw [hw3]; exact hs2
  have hbl3 : b < w3.heap.size := by omega
  have hB3 : B ≤ w3.heap.size := by omega
  have HS3 := Lib.hid hs3
  have HT3 := Lib.hid (HH.out.below hb3)
  have HX3 := Lib.hid (show w3.cell? ⟨w.heap.size + 1, 0, none⟩ = some (Value.string { data := n.toArray }) ∧ w3.cell? ⟨w.heap.size + 1, 1, none⟩ = some (Value.bool k) ∧ w3.cell? ⟨w.heap.size, 0, none⟩ = some (Value.string { data := n.toArray }) ∧
    w3.cell? ⟨w.heap.size, 1, none⟩ = some (Value.string { data := u.toArray }) ∧ w3.cell? ⟨w.heap.size, 2, none⟩ = some (Value.string { data := t.toArray }) ∧ w3.cell? ⟨w.heap.size, 3, none⟩ = some (Value.string { data := y.toArray }) ∧ w3.cell? ⟨w.heap.size, 4, none⟩ = some (Value.bool k) from by
      rw [hw3]; exact ⟨k2, k3, x0, x1, x2, x3, x4⟩)
  have HB3 := Lib.hid hb3
  have y1 : w3.cell? ⟨b, 1, none⟩ = some m := by rw [hw3]; exact k1
  clear hs3 hw3 k0 k1 k2 k3 x0 x1 x2 x3 x4 hb2 hs2 hb3
  have qe : ∀ (W : World) (r : Option Nat), (binOp .eql 38 (.map r) (.map none)).run Tryz.prog W = .ok (.bool r.isNone) W := fun W r => run_eql_map_nil W _ _ _ r Tryz.underlying38
  rcases HT3.out.map with ⟨rfl, hD⟩ | ⟨g, rfl, hBg, hm⟩
  · have hD9 := Lib.hid hD
    clear hD
    have hmm := @run_makeMap Tryz.prog
    have hblk3 := HT3.out.blk
    have f1 : (w3.alloc (.map #[] 0)).frozen? ⟨b, 1, none⟩ = false := by
      have := (Below.heap_alloc w3 (.map #[] 0) b hbl3).trans hblk3
      simp [World.frozen?, this]
    have y2 : (w3.alloc (.map #[] 0)).cell? ⟨b, 1, none⟩ = some (.map none) := cell_of_row _ b 1 _ _ (0, 0) ((Below.heap_alloc w3 (.map #[] 0) b hbl3).trans hblk3)
    clear hblk3
    go_wp2_with fail
    clear f1 y1 y2 hmm
    have hs3 := HS3.out
    obtain ⟨w4, hw4⟩ : ∃ w4, w4 = (w3.setCell ⟨b, 1, none⟩ (.map (some w3.heap.size))).alloc (.map #[] 0) := ⟨_, rfl⟩
    rw [← hw4]
    rw [← World.setCell_alloc_past _ _ _ _ hbl3] at hw4
    obtain ⟨ht4, hm4, htt4, hbb4, hcc4⟩ := add_made hB3 hD9.out HT3.out w4 hw4
    have hs4 : w4.heap.size = w3.heap.size + 1 := by rw [hw4]; simp [World.setCell]
    have HX4 := Lib.hid (show _ ∧ _ ∧ _ ∧ _ ∧ _ ∧ _ ∧ _ from ⟨hcc4 _ _ (by simp; omega) HX3.out.1, hcc4 _ _ (by simp; omega) HX3.out.2.1, hcc4 _ _ (by simp; omega) HX3.out.2.2.1, hcc4 _ _ (by simp; omega) HX3.out.2.2.2.1, hcc4 _ _ (by simp; omega) HX3.out.2.2.2.2.1, hcc4 _ _ (by simp; omega) HX3.out.2.2.2.2.2.1, hcc4 _ _ (by simp; omega) HX3.out.2.2.2.2.2.2⟩)
    have HW4 := Lib.hid (show TbTurn w w4 (.slice A D.length cap) ∧ Below B w w4 from ⟨(TbTurn.below HB3.out _).trans htt4, (HB3.out.mono hB).trans hbb4⟩)
    have hBg : B ≤ w3.heap.size := by omega
    have hs5 : w.heap.size + 2 ≤ w4.heap.size := by omega
    clear hD9 htt4 hbb4 hcc4 hw4 HT3 HX3 HB3 HS3 hbl3 hB3 hs4 hs3
    generalize w3.heap.size = g at *
    have hmd : w4.drew.ownsMap Tryz.prog 74 (plainElem (H := Unit) Tryz.prog 3) g D.length (tbD D) := hm4
    have HTd := Lib.hid (ht4.below (w' := w4.drew) (Below.refl _ w4).drew)
    have HWd := Lib.hid (show TbTurn w w4.drew (.slice A D.length cap) ∧ Below B w w4.drew from ⟨HW4.out.1, HW4.out.2.drew⟩)
    have hxd : w4.drew.cell? ⟨w.heap.size + 1, 0, none⟩ = some (Value.string { data := n.toArray }) ∧ w4.drew.cell? ⟨w.heap.size + 1, 1, none⟩ = some (Value.bool k) ∧ w4.drew.cell? ⟨w.heap.size, 0, none⟩ = some (Value.string { data := n.toArray }) ∧
      w4.drew.cell? ⟨w.heap.size, 1, none⟩ = some (Value.string { data := u.toArray }) ∧ w4.drew.cell? ⟨w.heap.size, 2, none⟩ = some (Value.string { data := t.toArray }) ∧ w4.drew.cell? ⟨w.heap.size, 3, none⟩ = some (Value.string { data := y.toArray }) ∧ w4.drew.cell? ⟨w.heap.size, 4, none⟩ = some (Value.bool k) := HX4.out
    have HXd := Lib.hid hxd
    clear hxd
    have hsd : w.heap.size + 2 ≤ w4.drew.heap.size := hs5
    clear ht4 hm4 HW4 HX4 hs5
    refine wp_region_N (fun W => W = w4.drew) (fun i => decide (i < 10)) (by kernel_rfl) ?_
    generalize w4.drew = wd at *
    have c0 : wd.cell? ⟨b, 0, none⟩ = some (.slice A D.length cap) := (cell_of_row wd b 0 _ _ (0, 0) HTd.out.blk).trans rfl
    have c1 : wd.cell? ⟨b, 1, none⟩ = some (.map (some g)) := (cell_of_row wd b 1 _ _ (0, 0) HTd.out.blk).trans rfl
    obtain ⟨K0, K1, _⟩ := HXd.out
    obtain ⟨w5, hup, hm5, hg5⟩ := hmd.update tbkeyLaw Tryz.underlying38 (by unfold maxLen; omega) hkey (val := .int .i64 (D.length : Int)) (plainElem_int Tryz.underlying3 (WalkArith.wf_i64 (by omega)))
    have HM5 := Lib.hid hm5
    have HG5 := Lib.hid hg5
    clear hm5 hg5
    refine wpAnyN_take_at 0 34 (v := ?_) rfl rfl (by kernel_rfl) (by kernel_rfl) (by kernel_rfl) (by kernel_rfl) (by kernel_rfl) (fun _ _ _ h => h) (by rfl) ?_ rfl ?_
    rotate_left
    · intro W hSw; (try dsimp only at hSw); subst hSw; go_simp; (try with_reducible rfl)
    simp only [Act.put, List.setIfInBounds_toArray, List.set_cons_zero, List.set_cons_succ]
    refine wpAnyN_take_at 1 35 (v := ?_) rfl rfl (by kernel_rfl) (by kernel_rfl) (by kernel_rfl) (by kernel_rfl) (by kernel_rfl) (fun _ _ _ h => h) (by rfl) ?_ rfl ?_
    rotate_left
    · intro W hSw; (try dsimp only at hSw); subst hSw; go_simp; (try with_reducible rfl)
    simp only [Act.put, List.setIfInBounds_toArray, List.set_cons_zero, List.set_cons_succ]
    refine wpAnyN_take_at 2 36 (v := ?_) rfl rfl (by kernel_rfl) (by kernel_rfl) (by kernel_rfl) (by kernel_rfl) (by kernel_rfl) (fun _ _ _ h => h) (by rfl) ?_ rfl ?_
    rotate_left
    · intro W hSw; (try dsimp only at hSw); subst hSw; go_simp; (try with_reducible rfl)
    simp only [Act.put, List.setIfInBounds_toArray, List.set_cons_zero, List.set_cons_succ]
    refine wpAnyN_take_at 3 37 (v := ?_) rfl rfl (by kernel_rfl) (by kernel_rfl) (by kernel_rfl) (by kernel_rfl) (by kernel_rfl) (fun _ _ _ h => h) (by rfl) ?_ rfl ?_
    rotate_left
    · intro W hSw; (try dsimp only at hSw); subst hSw; go_simp; (try with_reducible rfl)
    simp only [Act.put, List.setIfInBounds_toArray, List.set_cons_zero, List.set_cons_succ]
    refine wpAnyN_take_at 4 38 (v := ?_) rfl rfl (by kernel_rfl) (by kernel_rfl) (by kernel_rfl) (by kernel_rfl) (by kernel_rfl) (fun _ _ _ h => h) (by rfl) ?_ rfl ?_
    rotate_left
    · intro W hSw; (try dsimp only at hSw); subst hSw; go_simp; (try with_reducible rfl)
    simp only [Act.put, List.setIfInBounds_toArray, List.set_cons_zero, List.set_cons_succ]
    refine wpAnyN_take_at 5 39 (v := ?_) rfl rfl (by kernel_rfl) (by kernel_rfl) (by kernel_rfl) (by kernel_rfl) (by kernel_rfl) (fun _ _ _ h => h) (by rfl) ?_ rfl ?_
    rotate_left
    · intro W hSw; (try dsimp only at hSw); subst hSw; go_simp; (try with_reducible rfl)
    simp only [Act.put, List.setIfInBounds_toArray, List.set_cons_zero, List.set_cons_succ]
    refine wpAnyN_take_at 6 40 (v := ?_) rfl rfl (by kernel_rfl) (by kernel_rfl) (by kernel_rfl) (by kernel_rfl) (by kernel_rfl) (fun _ _ _ h => h) (by rfl) ?_ rfl ?_
    rotate_left
    · intro W hSw; (try dsimp only at hSw); subst hSw; go_simp; (try with_reducible rfl)
    simp only [Act.put, List.setIfInBounds_toArray, List.set_cons_zero, List.set_cons_succ]
    refine wpAnyN_take_at 7 41 (v := ?_) rfl rfl (by kernel_rfl) (by kernel_rfl) (by kernel_rfl) (by kernel_rfl) (by kernel_rfl) (fun _ _ _ h => h) (by rfl) ?_ rfl ?_
    rotate_left
    · intro W hSw; (try dsimp only at hSw); subst hSw; go_simp; (try with_reducible rfl)
    simp only [Act.put, List.setIfInBounds_toArray, List.set_cons_zero, List.set_cons_succ]
    refine wpAnyN_take_at 8 42 (v := ?_) rfl rfl (by kernel_rfl) (by kernel_rfl) (by kernel_rfl) (by kernel_rfl) (by kernel_rfl) (fun _ _ _ h => h) (by rfl) ?_ rfl ?_
    rotate_left
    · intro W hSw; (try dsimp only at hSw); subst hSw; go_simp; (try with_reducible rfl)
    simp only [Act.put, List.setIfInBounds_toArray, List.set_cons_zero, List.set_cons_succ]
    refine wpAnyN_take_at 9 43 (v := ?_) rfl rfl (by kernel_rfl) (by kernel_rfl) (by kernel_rfl) (by kernel_rfl) (by kernel_rfl) (fun _ _ _ h => h) (by rfl) ?_ rfl ?_
    rotate_left
    · intro W hSw; (try dsimp only at hSw); subst hSw; go_simp; (try with_reducible rfl)
    simp only [Act.put, List.setIfInBounds_toArray, List.set_cons_zero, List.set_cons_succ]
    refine wpAnyN_one (i := 10) rfl (by kernel_rfl) (fun K hK => ?_)
    go_simp
    refine hK _ _ (fun h => absurd h (by decide)) ?_
    clear hK
    (try simp only [Act.put, List.setIfInBounds_toArray, List.set_cons_zero, List.set_cons_succ])
    refine wpAnyN_rest 11 [] rfl (by kernel_rfl) (by rfl) ?_
    have hsz5 := HG5.out.size
    have hgne : ∀ (p : Addr) (u' : Value), wd.cell? p = some u' → p.block ≠ g := fun p u' hp => by
      rintro e
      obtain ⟨es, cl, hbm, _⟩ := hmd
      simp [World.cell?, e, hbm] at hp
    have hx5 : w5.drew.cell? ⟨b, 0, none⟩ = some (.slice A D.length cap) ∧ w5.drew.cell? ⟨w.heap.size, 0, none⟩ = some (Value.string { data := n.toArray }) ∧ w5.drew.cell? ⟨w.heap.size, 1, none⟩ = some (Value.string { data := u.toArray }) ∧ w5.drew.cell? ⟨w.heap.size, 2, none⟩ = some (Value.string { data := t.toArray }) ∧ w5.drew.cell? ⟨w.heap.size, 3, none⟩ = some (Value.string { data := y.toArray }) ∧ w5.drew.cell? ⟨w.heap.size, 4, none⟩ = some (Value.bool k) := ⟨HG5.out.cell c0 (by intro e; injection e with e; exact hgne _ _ c0 e), HG5.out.cell HXd.out.2.2.1 (by intro e; injection e with e; exact hgne _ _ HXd.out.2.2.1 e), HG5.out.cell HXd.out.2.2.2.1 (by intro e; injection e with e; exact hgne _ _ HXd.out.2.2.2.1 e), HG5.out.cell HXd.out.2.2.2.2.1 (by intro e; injection e with e; exact hgne _ _ HXd.out.2.2.2.2.1 e), HG5.out.cell HXd.out.2.2.2.2.2.1 (by intro e; injection e with e; exact hgne _ _ HXd.out.2.2.2.2.2.1 e), HG5.out.cell HXd.out.2.2.2.2.2.2 (by intro e; injection e with e; exact hgne _ _ HXd.out.2.2.2.2.2.2 e)⟩
    have HX5 := Lib.hid hx5
    have hm6 : w5.drew.ownsMap Tryz.prog 74 (plainElem (H := Unit) Tryz.prog 3) g (D.length + 1) ((tbD D).put (tbkLit n k) (.lit (.int .i64 (D.length : Int)))) := HM5.out
    have HM6 := Lib.hid hm6
    have hg6 : wd.grownBy w5.drew (some g) := ⟨HG5.out.os, HG5.out.tape, HG5.out.output, HG5.out.size, HG5.out.block⟩
    have HG6 := Lib.hid hg6
    have hs6 : w.heap.size + 2 ≤ w5.drew.heap.size := Nat.le_trans hsd hsz5
    have HMd := Lib.hid hmd
    clear c0 c1 K0 K1 hup HM5 HG5 hsz5 hgne hmd hx5 hm6 hg6
    go_wp2_with fail
    refine wp_region_N (fun W => W.cell? ⟨b, 0, none⟩ = some (.slice A D.length cap) ∧ W.cell? ⟨w.heap.size, 0, none⟩ = some (Value.string { data := n.toArray }) ∧ W.cell? ⟨w.heap.size, 1, none⟩ = some (Value.string { data := u.toArray }) ∧ W.cell? ⟨w.heap.size, 2, none⟩ = some (Value.string { data := t.toArray }) ∧ W.cell? ⟨w.heap.size, 3, none⟩ = some (Value.string { data := y.toArray }) ∧ W.cell? ⟨w.heap.size, 4, none⟩ = some (Value.bool k)) (fun i => decide (i < 10)) (by kernel_rfl) ?_
    have hsW : w.heap.size + 2 ≤ w5.drew.heap.size := hs6
    generalize w5.drew = wf at *
    have hbf : b < wf.heap.size := by omega
    have hBf : B ≤ wf.heap.size := by omega
    have hxf : w.heap.size < wf.heap.size := by omega
    have hrow5 := row_kept HG6.out HTd.out.row (fun g2 e1 e2 => row_ne_map HMd.out HTd.out.row (by rw [e1, e2]))
    have hvb : (Value.slice A D.length cap).ownBlock ≠ some b := own_ne HH.out.row HH.out.blk (by decide)
    have hvx : (Value.slice A D.length cap).ownBlock ≠ some w.heap.size := fun e => by have := (HH.out.row.lt _ e).2; omega
    have bal := (Below.refl wf.heap.size wf).alloc (Nat.le_refl _) (.cells #[Value.string { data := n.toArray }, Value.string { data := u.toArray }, Value.string { data := t.toArray }, Value.string { data := y.toArray }, Value.bool k] 43)
    have hxa : (wf.alloc (.cells #[Value.string { data := n.toArray }, Value.string { data := u.toArray }, Value.string { data := t.toArray }, Value.string { data := y.toArray }, Value.bool k] 43)).cell? ⟨b, 0, none⟩ = some (.slice A D.length cap) ∧ (wf.alloc (.cells #[Value.string { data := n.toArray }, Value.string { data := u.toArray }, Value.string { data := t.toArray }, Value.string { data := y.toArray }, Value.bool k] 43)).cell? ⟨w.heap.size, 0, none⟩ = some (Value.string { data := n.toArray }) ∧ (wf.alloc (.cells #[Value.string { data := n.toArray }, Value.string { data := u.toArray }, Value.string { data := t.toArray }, Value.string { data := y.toArray }, Value.bool k] 43)).cell? ⟨w.heap.size, 1, none⟩ = some (Value.string { data := u.toArray }) ∧ (wf.alloc (.cells #[Value.string { data := n.toArray }, Value.string { data := u.toArray }, Value.string { data := t.toArray }, Value.string { data := y.toArray }, Value.bool k] 43)).cell? ⟨w.heap.size, 2, none⟩ = some (Value.string { data := t.toArray }) ∧ (wf.alloc (.cells #[Value.string { data := n.toArray }, Value.string { data := u.toArray }, Value.string { data := t.toArray }, Value.string { data := y.toArray }, Value.bool k] 43)).cell? ⟨w.heap.size, 3, none⟩ = some (Value.string { data := y.toArray }) ∧ (wf.alloc (.cells #[Value.string { data := n.toArray }, Value.string { data := u.toArray }, Value.string { data := t.toArray }, Value.string { data := y.toArray }, Value.bool k] 43)).cell? ⟨w.heap.size, 4, none⟩ = some (Value.bool k) :=
      ⟨(bal.cell (p := ⟨b, 0, none⟩) hbf).trans HX5.out.1, (bal.cell (p := ⟨w.heap.size, 0, none⟩) hxf).trans HX5.out.2.1, (bal.cell (p := ⟨w.heap.size, 1, none⟩) hxf).trans HX5.out.2.2.1, (bal.cell (p := ⟨w.heap.size, 2, none⟩) hxf).trans HX5.out.2.2.2.1, (bal.cell (p := ⟨w.heap.size, 3, none⟩) hxf).trans HX5.out.2.2.2.2.1, (bal.cell (p := ⟨w.heap.size, 4, none⟩) hxf).trans HX5.out.2.2.2.2.2⟩
    have HXA := Lib.hid hxa
    have HRW := Lib.hid hrow5
    have HVB := Lib.hid hvb
    have HVX := Lib.hid hvx
    clear hxa hrow5 hvb hvx bal hsW
    refine wpAnyN_take_at 0 44 (v := ?_) rfl rfl (by kernel_rfl) (by kernel_rfl) (by kernel_rfl) (by kernel_rfl) (by kernel_rfl) (fun _ _ _ h => h) (by rfl) ?_ HX5.out ?_
    rotate_left
    · intro W hSw; (try dsimp only at hSw); go_simp; (try with_reducible rfl)
    simp only [Act.put, List.setIfInBounds_toArray, List.set_cons_zero, List.set_cons_succ]
    refine wpAnyN_take_at 1 45 (v := ?_) rfl rfl (by kernel_rfl) (by kernel_rfl) (by kernel_rfl) (by kernel_rfl) (by kernel_rfl) (fun _ _ _ h => h) (by rfl) ?_ HX5.out ?_
    rotate_left
    · intro W hSw; (try dsimp only at hSw); go_simp; (try with_reducible rfl)
    simp only [Act.put, List.setIfInBounds_toArray, List.set_cons_zero, List.set_cons_succ]
    refine wpAnyN_take_at 2 46 (v := ?_) rfl rfl (by kernel_rfl) (by kernel_rfl) (by kernel_rfl) (by kernel_rfl) (by kernel_rfl) (fun _ _ _ h => h) (by rfl) ?_ HX5.out ?_
    rotate_left
    · intro W hSw; (try dsimp only at hSw); go_simp; (try with_reducible rfl)
    simp only [Act.put, List.setIfInBounds_toArray, List.set_cons_zero, List.set_cons_succ]
    refine wpAnyN_take_at 3 47 (v := ?_) rfl rfl (by kernel_rfl) (by kernel_rfl) (by kernel_rfl) (by kernel_rfl) (by kernel_rfl) (fun _ _ _ h => h) (by rfl) ?_ HX5.out ?_
    rotate_left
    · intro W hSw; (try dsimp only at hSw); go_simp; (try with_reducible rfl)
    simp only [Act.put, List.setIfInBounds_toArray, List.set_cons_zero, List.set_cons_succ]
    refine wpAnyN_take_at 4 48 (v := ?_) rfl rfl (by kernel_rfl) (by kernel_rfl) (by kernel_rfl) (by kernel_rfl) (by kernel_rfl) (fun _ _ _ h => h) (by rfl) ?_ HX5.out ?_
    rotate_left
    · intro W hSw; (try dsimp only at hSw); have q0 := hSw.1; go_simp; (try with_reducible rfl)
    simp only [Act.put, List.setIfInBounds_toArray, List.set_cons_zero, List.set_cons_succ]
    refine wpAnyN_take_at 5 49 (v := ?_) rfl rfl (by kernel_rfl) (by kernel_rfl) (by kernel_rfl) (by kernel_rfl) (by kernel_rfl) (fun _ _ _ h => h) (by rfl) ?_ HX5.out ?_
    rotate_left
    · intro W hSw; (try dsimp only at hSw); obtain ⟨_, q1, q2, q3, q4, q5⟩ := hSw; go_simp; (try with_reducible rfl)
    simp only [Act.put, List.setIfInBounds_toArray, List.set_cons_zero, List.set_cons_succ]
    refine wpAnyN_one (i := 6) rfl (by kernel_rfl) (fun K hK => ?_)
    go_simp
    refine hK _ _ (fun _ => HXA.out) ?_
    clear hK
    (try simp only [Act.put, List.setIfInBounds_toArray, List.set_cons_zero, List.set_cons_succ])
    refine wpAnyN_one (i := 7) rfl (by kernel_rfl) (fun K hK => ?_)
    rw [if_pos (by rfl)]
    refine wp_append_lies _ (.tmp 48) (.tmp 50) 22 rfl B 43 i0 (.agg #[.string ByteArray.empty, .string ByteArray.empty, .string ByteArray.empty, .string ByteArray.empty, .bool false]) 5 72 Tryz.underlying22 hi hz0 hz1 hz2 rfl (by decide) (.slice A D.length cap) D.length (flt dfC D) (by rfl) (HRW.out.alloc _) ⟨wf.heap.size, 0, none⟩ 1 1 (dfC ⟨n, u, t, y, k⟩) (by rfl) rfl (elt_cells wf (dfC ⟨n, u, t, y, k⟩) 43) (dfC_one _) (by omega) (by unfold maxLen; omega) (by omega) (by simp; omega) _ rfl ?_
    intro g1 cap1 w6 hown6 hgrow6 hat6 hlt6
    have hx6 : w6.cell? ⟨b, 0, none⟩ = some (.slice A D.length cap) ∧ w6.cell? ⟨w.heap.size, 0, none⟩ = some (Value.string { data := n.toArray }) ∧ w6.cell? ⟨w.heap.size, 1, none⟩ = some (Value.string { data := u.toArray }) ∧ w6.cell? ⟨w.heap.size, 2, none⟩ = some (Value.string { data := t.toArray }) ∧ w6.cell? ⟨w.heap.size, 3, none⟩ = some (Value.string { data := y.toArray }) ∧ w6.cell? ⟨w.heap.size, 4, none⟩ = some (Value.bool k) :=
      ⟨hgrow6.cell HXA.out.1 (fun e => HVB.out e.symm), hgrow6.cell HXA.out.2.1 (fun e => HVX.out e.symm), hgrow6.cell HXA.out.2.2.1 (fun e => HVX.out e.symm), hgrow6.cell HXA.out.2.2.2.1 (fun e => HVX.out e.symm), hgrow6.cell HXA.out.2.2.2.2.1 (fun e => HVX.out e.symm), hgrow6.cell HXA.out.2.2.2.2.2 (fun e => HVX.out e.symm)⟩
    have HX6 := Lib.hid hx6
    refine hK _ _ (fun _ => hx6) ?_
    obtain ⟨r1, r2, r3⟩ := add_end (x := ⟨n, u, t, y, k⟩) (by omega) HTd.out hBg HMd.out HM6.out HG6.out _ g1 cap1 hown6 hgrow6 HN.out HD.out
    have hf6 : w6.frozen? ⟨b, 0, none⟩ = false := by
      have hb6 := hgrow6.block b (by simp; omega) (fun e => HVB.out e.symm)
      have hb7 := HTd.out.blk
      rw [Below.heap_alloc _ _ b hbf, HG6.out.block b (Array.getElem?_eq_some_iff.1 hb7).1 (fun e => map_ne HMd.out hb7 (by injection e)), hb7] at hb6
      simp [World.frozen?, hb6]
    have HE := Lib.hid (show (∃ v' m', TableIs (w6.setCell ⟨b, 0, none⟩ (.slice (some ⟨g1, 0, none⟩) (D.length + 1) cap1)) B b v' m' (D ++ [x]) ∧ (v'.ownBlock = (Value.slice A D.length cap).ownBlock ∨ ∃ g, v'.ownBlock = some g ∧ w.heap.size ≤ g)) ∧
        TbTurn w (w6.setCell ⟨b, 0, none⟩ (.slice (some ⟨g1, 0, none⟩) (D.length + 1) cap1)) (.slice A D.length cap) ∧ Below B w (w6.setCell ⟨b, 0, none⟩ (.slice (some ⟨g1, 0, none⟩) (D.length + 1) cap1)) from by
      refine ⟨⟨_, _, by rw [HX.out]; exact r1, ?_⟩, HWd.out.1.trans r2, HWd.out.2.trans r3⟩
      rcases hat6 with e | e
      · exact .inl e.symm
      · exact .inr ⟨g1, rfl, by rw [e]; simp; omega⟩)
    have q0 := hx6.1
    clear hK r1 r2 r3 hown6 hgrow6 hat6 hlt6 hx6
    simp only [Act.put, List.setIfInBounds_toArray, List.set_cons_zero, List.set_cons_succ]
    refine wpAnyN_take_at 8 52 (v := ?_) rfl rfl (by kernel_rfl) (by kernel_rfl) (by kernel_rfl) (by kernel_rfl) (by kernel_rfl) (fun _ _ _ h => h) (by rfl) ?_ HX6.out ?_
    rotate_left
    · intro W hSw; (try dsimp only at hSw); go_simp; (try with_reducible rfl)
    simp only [Act.put, List.setIfInBounds_toArray, List.set_cons_zero, List.set_cons_succ]
    refine wpAnyN_take_at 9 53 (v := ?_) rfl rfl (by kernel_rfl) (by kernel_rfl) (by kernel_rfl) (by kernel_rfl) (by kernel_rfl) (fun _ _ _ h => h) (by rfl) ?_ HX6.out ?_
    rotate_left
    · intro W hSw; (try dsimp only at hSw); go_simp; (try with_reducible rfl)
    simp only [Act.put, List.setIfInBounds_toArray, List.set_cons_zero, List.set_cons_succ]
    refine wpAnyN_rest 10 [_] rfl (by kernel_rfl) (by rfl) ?_
    go_wp2
    go_ret
    exact ⟨rfl, HE.out⟩
  · have ht4 := HT3.out
    have hm4 := hm
    go_wp2_with fail
    clear y1
    obtain ⟨w4, hw4⟩ : ∃ w4, w4 = w3 := ⟨_, rfl⟩
    have hs3 := HS3.out
    rw [← hw4] at ht4 hm4 HX3 HB3 hs3 ⊢
    have HX4 := HX3
    have HW4 := Lib.hid (show TbTurn w w4 (.slice A D.length cap) ∧ Below B w w4 from ⟨TbTurn.below HB3.out _, HB3.out.mono hB⟩)
    have hs5 : w.heap.size + 2 ≤ w4.heap.size := by omega
    clear hw4 HT3 HX3 HB3 hm HS3 hbl3 hB3 hs3
    have hmd : w4.drew.ownsMap Tryz.prog 74 (plainElem (H := Unit) Tryz.prog 3) g D.length (tbD D) := hm4
    have HTd := Lib.hid (ht4.below (w' := w4.drew) (Below.refl _ w4).drew)
    have HWd := Lib.hid (show TbTurn w w4.drew (.slice A D.length cap) ∧ Below B w w4.drew from ⟨HW4.out.1, HW4.out.2.drew⟩)
    have hxd : w4.drew.cell? ⟨w.heap.size + 1, 0, none⟩ = some (Value.string { data := n.toArray }) ∧ w4.drew.cell? ⟨w.heap.size + 1, 1, none⟩ = some (Value.bool k) ∧ w4.drew.cell? ⟨w.heap.size, 0, none⟩ = some (Value.string { data := n.toArray }) ∧
      w4.drew.cell? ⟨w.heap.size, 1, none⟩ = some (Value.string { data := u.toArray }) ∧ w4.drew.cell? ⟨w.heap.size, 2, none⟩ = some (Value.string { data := t.toArray }) ∧ w4.drew.cell? ⟨w.heap.size, 3, none⟩ = some (Value.string { data := y.toArray }) ∧ w4.drew.cell? ⟨w.heap.size, 4, none⟩ = some (Value.bool k) := HX4.out
    have HXd := Lib.hid hxd
    clear hxd
    have hsd : w.heap.size + 2 ≤ w4.drew.heap.size := hs5
    clear ht4 hm4 HW4 HX4 hs5
    refine wp_region_N (fun W => W = w4.drew) (fun i => decide (i < 10)) (by kernel_rfl) ?_
    generalize w4.drew = wd at *
    have c0 : wd.cell? ⟨b, 0, none⟩ = some (.slice A D.length cap) := (cell_of_row wd b 0 _ _ (0, 0) HTd.out.blk).trans rfl
    have c1 : wd.cell? ⟨b, 1, none⟩ = some (.map (some g)) := (cell_of_row wd b 1 _ _ (0, 0) HTd.out.blk).trans rfl
    obtain ⟨K0, K1, _⟩ := HXd.out
    obtain ⟨w5, hup, hm5, hg5⟩ := hmd.update tbkeyLaw Tryz.underlying38 (by unfold maxLen; omega) hkey (val := .int .i64 (D.length : Int)) (plainElem_int Tryz.underlying3 (WalkArith.wf_i64 (by omega)))
    have HM5 := Lib.hid hm5
    have HG5 := Lib.hid hg5
    clear hm5 hg5
    refine wpAnyN_take_at 0 34 (v := ?_) rfl rfl (by kernel_rfl) (by kernel_rfl) (by kernel_rfl) (by kernel_rfl) (by kernel_rfl) (fun _ _ _ h => h) (by rfl) ?_ rfl ?_
    rotate_left
    · intro W hSw; (try dsimp only at hSw); subst hSw; go_simp; (try with_reducible rfl)
    simp only [Act.put, List.setIfInBounds_toArray, List.set_cons_zero, List.set_cons_succ]
    refine wpAnyN_take_at 1 35 (v := ?_) rfl rfl (by kernel_rfl) (by kernel_rfl) (by kernel_rfl) (by kernel_rfl) (by kernel_rfl) (fun _ _ _ h => h) (by rfl) ?_ rfl ?_
    rotate_left
    · intro W hSw; (try dsimp only at hSw); subst hSw; go_simp; (try with_reducible rfl)
    simp only [Act.put, List.setIfInBounds_toArray, List.set_cons_zero, List.set_cons_succ]
    refine wpAnyN_take_at 2 36 (v := ?_) rfl rfl (by kernel_rfl) (by kernel_rfl) (by kernel_rfl) (by kernel_rfl) (by kernel_rfl) (fun _ _ _ h => h) (by rfl) ?_ rfl ?_
    rotate_left
    · intro W hSw; (try dsimp only at hSw); subst hSw; go_simp; (try with_reducible rfl)
    simp only [Act.put, List.setIfInBounds_toArray, List.set_cons_zero, List.set_cons_succ]
    refine wpAnyN_take_at 3 37 (v := ?_) rfl rfl (by kernel_rfl) (by kernel_rfl) (by kernel_rfl) (by kernel_rfl) (by kernel_rfl) (fun _ _ _ h => h) (by rfl) ?_ rfl ?_
    rotate_left
    · intro W hSw; (try dsimp only at hSw); subst hSw; go_simp; (try with_reducible rfl)
    simp only [Act.put, List.setIfInBounds_toArray, List.set_cons_zero, List.set_cons_succ]
    refine wpAnyN_take_at 4 38 (v := ?_) rfl rfl (by kernel_rfl) (by kernel_rfl) (by kernel_rfl) (by kernel_rfl) (by kernel_rfl) (fun _ _ _ h => h) (by rfl) ?_ rfl ?_
    rotate_left
    · intro W hSw; (try dsimp only at hSw); subst hSw; go_simp; (try with_reducible rfl)
    simp only [Act.put, List.setIfInBounds_toArray, List.set_cons_zero, List.set_cons_succ]
    refine wpAnyN_take_at 5 39 (v := ?_) rfl rfl (by kernel_rfl) (by kernel_rfl) (by kernel_rfl) (by kernel_rfl) (by kernel_rfl) (fun _ _ _ h => h) (by rfl) ?_ rfl ?_
    rotate_left
    · intro W hSw; (try dsimp only at hSw); subst hSw; go_simp; (try with_reducible rfl)
    simp only [Act.put, List.setIfInBounds_toArray, List.set_cons_zero, List.set_cons_succ]
    refine wpAnyN_take_at 6 40 (v := ?_) rfl rfl (by kernel_rfl) (by kernel_rfl) (by kernel_rfl) (by kernel_rfl) (by kernel_rfl) (fun _ _ _ h => h) (by rfl) ?_ rfl ?_
    rotate_left
    · intro W hSw; (try dsimp only at hSw); subst hSw; go_simp; (try with_reducible rfl)
    simp only [Act.put, List.setIfInBounds_toArray, List.set_cons_zero, List.set_cons_succ]
    refine wpAnyN_take_at 7 41 (v := ?_) rfl rfl (by kernel_rfl) (by kernel_rfl) (by kernel_rfl) (by kernel_rfl) (by kernel_rfl) (fun _ _ _ h => h) (by rfl) ?_ rfl ?_
    rotate_left
    · intro W hSw; (try dsimp only at hSw); subst hSw; go_simp; (try with_reducible rfl)
    simp only [Act.put, List.setIfInBounds_toArray, List.set_cons_zero, List.set_cons_succ]
    refine wpAnyN_take_at 8 42 (v := ?_) rfl rfl (by kernel_rfl) (by kernel_rfl) (by kernel_rfl) (by kernel_rfl) (by kernel_rfl) (fun _ _ _ h => h) (by rfl) ?_ rfl ?_
    rotate_left
    · intro W hSw; (try dsimp only at hSw); subst hSw; go_simp; (try with_reducible rfl)
    simp only [Act.put, List.setIfInBounds_toArray, List.set_cons_zero, List.set_cons_succ]
    refine wpAnyN_take_at 9 43 (v := ?_) rfl rfl (by kernel_rfl) (by kernel_rfl) (by kernel_rfl) (by kernel_rfl) (by kernel_rfl) (fun _ _ _ h => h) (by rfl) ?_ rfl ?_
    rotate_left
    · intro W hSw; (try dsimp only at hSw); subst hSw; go_simp; (try with_reducible rfl)
    simp only [Act.put, List.setIfInBounds_toArray, List.set_cons_zero, List.set_cons_succ]
    refine wpAnyN_one (i := 10) rfl (by kernel_rfl) (fun K hK => ?_)
    go_simp
    refine hK _ _ (fun h => absurd h (by decide)) ?_
    clear hK
    (try simp only [Act.put, List.setIfInBounds_toArray, List.set_cons_zero, List.set_cons_succ])
    refine wpAnyN_rest 11 [] rfl (by kernel_rfl) (by rfl) ?_
    have hsz5 := HG5.out.size
    have hgne : ∀ (p : Addr) (u' : Value), wd.cell? p = some u' → p.block ≠ g := fun p u' hp => by
      rintro e
      obtain ⟨es, cl, hbm, _⟩ := hmd
      simp [World.cell?, e, hbm] at hp
    have hx5 : w5.drew.cell? ⟨b, 0, none⟩ = some (.slice A D.length cap) ∧ w5.drew.cell? ⟨w.heap.size, 0, none⟩ = some (Value.string { data := n.toArray }) ∧ w5.drew.cell? ⟨w.heap.size, 1, none⟩ = some (Value.string { data := u.toArray }) ∧ w5.drew.cell? ⟨w.heap.size, 2, none⟩ = some (Value.string { data := t.toArray }) ∧ w5.drew.cell? ⟨w.heap.size, 3, none⟩ = some (Value.string { data := y.toArray }) ∧ w5.drew.cell? ⟨w.heap.size, 4, none⟩ = some (Value.bool k) := ⟨HG5.out.cell c0 (by intro e; injection e with e; exact hgne _ _ c0 e), HG5.out.cell HXd.out.2.2.1 (by intro e; injection e with e; exact hgne _ _ HXd.out.2.2.1 e), HG5.out.cell HXd.out.2.2.2.1 (by intro e; injection e with e; exact hgne _ _ HXd.out.2.2.2.1 e), HG5.out.cell HXd.out.2.2.2.2.1 (by intro e; injection e with e; exact hgne _ _ HXd.out.2.2.2.2.1 e), HG5.out.cell HXd.out.2.2.2.2.2.1 (by intro e; injection e with e; exact hgne _ _ HXd.out.2.2.2.2.2.1 e), HG5.out.cell HXd.out.2.2.2.2.2.2 (by intro e; injection e with e; exact hgne _ _ HXd.out.2.2.2.2.2.2 e)⟩
    have HX5 := Lib.hid hx5
    have hm6 : w5.drew.ownsMap Tryz.prog 74 (plainElem (H := Unit) Tryz.prog 3) g (D.length + 1) ((tbD D).put (tbkLit n k) (.lit (.int .i64 (D.length : Int)))) := HM5.out
    have HM6 := Lib.hid hm6
    have hg6 : wd.grownBy w5.drew (some g) := ⟨HG5.out.os, HG5.out.tape, HG5.out.output, HG5.out.size, HG5.out.block⟩
    have HG6 := Lib.hid hg6
    have hs6 : w.heap.size + 2 ≤ w5.drew.heap.size := Nat.le_trans hsd hsz5
    have HMd := Lib.hid hmd
    clear c0 c1 K0 K1 hup HM5 HG5 hsz5 hgne hmd hx5 hm6 hg6
    go_wp2_with fail
    refine wp_region_N (fun W => W.cell? ⟨b, 0, none⟩ = some (.slice A D.length cap) ∧ W.cell? ⟨w.heap.size, 0, none⟩ = some (Value.string { data := n.toArray }) ∧ W.cell? ⟨w.heap.size, 1, none⟩ = some (Value.string { data := u.toArray }) ∧ W.cell? ⟨w.heap.size, 2, none⟩ = some (Value.string { data := t.toArray }) ∧ W.cell? ⟨w.heap.size, 3, none⟩ = some (Value.string { data := y.toArray }) ∧ W.cell? ⟨w.heap.size, 4, none⟩ = some (Value.bool k)) (fun i => decide (i < 10)) (by kernel_rfl) ?_
    have hsW : w.heap.size + 2 ≤ w5.drew.heap.size := hs6
    generalize w5.drew = wf at *
    have hbf : b < wf.heap.size := by omega
    have hBf : B ≤ wf.heap.size := by omega
    have hxf : w.heap.size < wf.heap.size := by omega
    have hrow5 := row_kept HG6.out HTd.out.row (fun g2 e1 e2 => row_ne_map HMd.out HTd.out.row (by rw [e1, e2]))
    have hvb : (Value.slice A D.length cap).ownBlock ≠ some b := own_ne HH.out.row HH.out.blk (by decide)
    have hvx : (Value.slice A D.length cap).ownBlock ≠ some w.heap.size := fun e => by have := (HH.out.row.lt _ e).2; omega
    have bal := (Below.refl wf.heap.size wf).alloc (Nat.le_refl _) (.cells #[Value.string { data := n.toArray }, Value.string { data := u.toArray }, Value.string { data := t.toArray }, Value.string { data := y.toArray }, Value.bool k] 43)
    have hxa : (wf.alloc (.cells #[Value.string { data := n.toArray }, Value.string { data := u.toArray }, Value.string { data := t.toArray }, Value.string { data := y.toArray }, Value.bool k] 43)).cell? ⟨b, 0, none⟩ = some (.slice A D.length cap) ∧ (wf.alloc (.cells #[Value.string { data := n.toArray }, Value.string { data := u.toArray }, Value.string { data := t.toArray }, Value.string { data := y.toArray }, Value.bool k] 43)).cell? ⟨w.heap.size, 0, none⟩ = some (Value.string { data := n.toArray }) ∧ (wf.alloc (.cells #[Value.string { data := n.toArray }, Value.string { data := u.toArray }, Value.string { data := t.toArray }, Value.string { data := y.toArray }, Value.bool k] 43)).cell? ⟨w.heap.size, 1, none⟩ = some (Value.string { data := u.toArray }) ∧ (wf.alloc (.cells #[Value.string { data := n.toArray }, Value.string { data := u.toArray }, Value.string { data := t.toArray }, Value.string { data := y.toArray }, Value.bool k] 43)).cell? ⟨w.heap.size, 2, none⟩ = some (Value.string { data := t.toArray }) ∧ (wf.alloc (.cells #[Value.string { data := n.toArray }, Value.string { data := u.toArray }, Value.string { data := t.toArray }, Value.string { data := y.toArray }, Value.bool k] 43)).cell? ⟨w.heap.size, 3, none⟩ = some (Value.string { data := y.toArray }) ∧ (wf.alloc (.cells #[Value.string { data := n.toArray }, Value.string { data := u.toArray }, Value.string { data := t.toArray }, Value.string { data := y.toArray }, Value.bool k] 43)).cell? ⟨w.heap.size, 4, none⟩ = some (Value.bool k) :=
      ⟨(bal.cell (p := ⟨b, 0, none⟩) hbf).trans HX5.out.1, (bal.cell (p := ⟨w.heap.size, 0, none⟩) hxf).trans HX5.out.2.1, (bal.cell (p := ⟨w.heap.size, 1, none⟩) hxf).trans HX5.out.2.2.1, (bal.cell (p := ⟨w.heap.size, 2, none⟩) hxf).trans HX5.out.2.2.2.1, (bal.cell (p := ⟨w.heap.size, 3, none⟩) hxf).trans HX5.out.2.2.2.2.1, (bal.cell (p := ⟨w.heap.size, 4, none⟩) hxf).trans HX5.out.2.2.2.2.2⟩
    have HXA := Lib.hid hxa
    have HRW := Lib.hid hrow5
    have HVB := Lib.hid hvb
    have HVX := Lib.hid hvx
    clear hxa hrow5 hvb hvx bal hsW
    refine wpAnyN_take_at 0 44 (v := ?_) rfl rfl (by kernel_rfl) (by kernel_rfl) (by kernel_rfl) (by kernel_rfl) (by kernel_rfl) (fun _ _ _ h => h) (by rfl) ?_ HX5.out ?_
    rotate_left
    · intro W hSw; (try dsimp only at hSw); go_simp; (try with_reducible rfl)
    simp only [Act.put, List.setIfInBounds_toArray, List.set_cons_zero, List.set_cons_succ]
    refine wpAnyN_take_at 1 45 (v := ?_) rfl rfl (by kernel_rfl) (by kernel_rfl) (by kernel_rfl) (by kernel_rfl) (by kernel_rfl) (fun _ _ _ h => h) (by rfl) ?_ HX5.out ?_
    rotate_left
    · intro W hSw; (try dsimp only at hSw); go_simp; (try with_reducible rfl)
    simp only [Act.put, List.setIfInBounds_toArray, List.set_cons_zero, List.set_cons_succ]
    refine wpAnyN_take_at 2 46 (v := ?_) rfl rfl (by kernel_rfl) (by kernel_rfl) (by kernel_rfl) (by kernel_rfl) (by kernel_rfl) (fun _ _ _ h => h) (by rfl) ?_ HX5.out ?_
    rotate_left
    · intro W hSw; (try dsimp only at hSw); go_simp; (try with_reducible rfl)
    simp only [Act.put, List.setIfInBounds_toArray, List.set_cons_zero, List.set_cons_succ]
    refine wpAnyN_take_at 3 47 (v := ?_) rfl rfl (by kernel_rfl) (by kernel_rfl) (by kernel_rfl) (by kernel_rfl) (by kernel_rfl) (fun _ _ _ h => h) (by rfl) ?_ HX5.out ?_
    rotate_left
    · intro W hSw; (try dsimp only at hSw); go_simp; (try with_reducible rfl)
    simp only [Act.put, List.setIfInBounds_toArray, List.set_cons_zero, List.set_cons_succ]
    refine wpAnyN_take_at 4 48 (v := ?_) rfl rfl (by kernel_rfl) (by kernel_rfl) (by kernel_rfl) (by kernel_rfl) (by kernel_rfl) (fun _ _ _ h => h) (by rfl) ?_ HX5.out ?_
    rotate_left
    · intro W hSw; (try dsimp only at hSw); have q0 := hSw.1; go_simp; (try with_reducible rfl)
    simp only [Act.put, List.setIfInBounds_toArray, List.set_cons_zero, List.set_cons_succ]
    refine wpAnyN_take_at 5 49 (v := ?_) rfl rfl (by kernel_rfl) (by kernel_rfl) (by kernel_rfl) (by kernel_rfl) (by kernel_rfl) (fun _ _ _ h => h) (by rfl) ?_ HX5.out ?_
    rotate_left
    · intro W hSw; (try dsimp only at hSw); obtain ⟨_, q1, q2, q3, q4, q5⟩ := hSw; go_simp; (try with_reducible rfl)
    simp only [Act.put, List.setIfInBounds_toArray, List.set_cons_zero, List.set_cons_succ]
    refine wpAnyN_one (i := 6) rfl (by kernel_rfl) (fun K hK => ?_)
    go_simp
    refine hK _ _ (fun _ => HXA.out) ?_
    clear hK
    (try simp only [Act.put, List.setIfInBounds_toArray, List.set_cons_zero, List.set_cons_succ])
    refine wpAnyN_one (i := 7) rfl (by kernel_rfl) (fun K hK => ?_)
    rw [if_pos (by rfl)]
    refine wp_append_lies _ (.tmp 48) (.tmp 50) 22 rfl B 43 i0 (.agg #[.string ByteArray.empty, .string ByteArray.empty, .string ByteArray.empty, .string ByteArray.empty, .bool false]) 5 72 Tryz.underlying22 hi hz0 hz1 hz2 rfl (by decide) (.slice A D.length cap) D.length (flt dfC D) (by rfl) (HRW.out.alloc _) ⟨wf.heap.size, 0, none⟩ 1 1 (dfC ⟨n, u, t, y, k⟩) (by rfl) rfl (elt_cells wf (dfC ⟨n, u, t, y, k⟩) 43) (dfC_one _) (by omega) (by unfold maxLen; omega) (by omega) (by simp; omega) _ rfl ?_
    intro g1 cap1 w6 hown6 hgrow6 hat6 hlt6
    have hx6 : w6.cell? ⟨b, 0, none⟩ = some (.slice A D.length cap) ∧ w6.cell? ⟨w.heap.size, 0, none⟩ = some (Value.string { data := n.toArray }) ∧ w6.cell? ⟨w.heap.size, 1, none⟩ = some (Value.string { data := u.toArray }) ∧ w6.cell? ⟨w.heap.size, 2, none⟩ = some (Value.string { data := t.toArray }) ∧ w6.cell? ⟨w.heap.size, 3, none⟩ = some (Value.string { data := y.toArray }) ∧ w6.cell? ⟨w.heap.size, 4, none⟩ = some (Value.bool k) :=
      ⟨hgrow6.cell HXA.out.1 (fun e => HVB.out e.symm), hgrow6.cell HXA.out.2.1 (fun e => HVX.out e.symm), hgrow6.cell HXA.out.2.2.1 (fun e => HVX.out e.symm), hgrow6.cell HXA.out.2.2.2.1 (fun e => HVX.out e.symm), hgrow6.cell HXA.out.2.2.2.2.1 (fun e => HVX.out e.symm), hgrow6.cell HXA.out.2.2.2.2.2 (fun e => HVX.out e.symm)⟩
    have HX6 := Lib.hid hx6
    refine hK _ _ (fun _ => hx6) ?_
    obtain ⟨r1, r2, r3⟩ := add_end (x := ⟨n, u, t, y, k⟩) (by omega) HTd.out hBg HMd.out HM6.out HG6.out _ g1 cap1 hown6 hgrow6 HN.out HD.out
    have hf6 : w6.frozen? ⟨b, 0, none⟩ = false := by
      have hb6 := hgrow6.block b (by simp; omega) (fun e => HVB.out e.symm)
      have hb7 := HTd.out.blk
      rw [Below.heap_alloc _ _ b hbf, HG6.out.block b (Array.getElem?_eq_some_iff.1 hb7).1 (fun e => map_ne HMd.out hb7 (by injection e)), hb7] at hb6
      simp [World.frozen?, hb6]
    have HE := Lib.hid (show (∃ v' m', TableIs (w6.setCell ⟨b, 0, none⟩ (.slice (some ⟨g1, 0, none⟩) (D.length + 1) cap1)) B b v' m' (D ++ [x]) ∧ (v'.ownBlock = (Value.slice A D.length cap).ownBlock ∨ ∃ g, v'.ownBlock = some g ∧ w.heap.size ≤ g)) ∧
        TbTurn w (w6.setCell ⟨b, 0, none⟩ (.slice (some ⟨g1, 0, none⟩) (D.length + 1) cap1)) (.slice A D.length cap) ∧ Below B w (w6.setCell ⟨b, 0, none⟩ (.slice (some ⟨g1, 0, none⟩) (D.length + 1) cap1)) from by
      refine ⟨⟨_, _, by rw [HX.out]; exact r1, ?_⟩, HWd.out.1.trans r2, HWd.out.2.trans r3⟩
      rcases hat6 with e | e
      · exact .inl e.symm
      · exact .inr ⟨g1, rfl, by rw [e]; simp; omega⟩)
    have q0 := hx6.1
    clear hK r1 r2 r3 hown6 hgrow6 hat6 hlt6 hx6
    simp only [Act.put, List.setIfInBounds_toArray, List.set_cons_zero, List.set_cons_succ]
    refine wpAnyN_take_at 8 52 (v := ?_) rfl rfl (by kernel_rfl) (by kernel_rfl) (by kernel_rfl) (by kernel_rfl) (by kernel_rfl) (fun _ _ _ h => h) (by rfl) ?_ HX6.out ?_
    rotate_left
    · intro W hSw; (try dsimp only at hSw); go_simp; (try with_reducible rfl)
    simp only [Act.put, List.setIfInBounds_toArray, List.set_cons_zero, List.set_cons_succ]
    refine wpAnyN_take_at 9 53 (v := ?_) rfl rfl (by kernel_rfl) (by kernel_rfl) (by kernel_rfl) (by kernel_rfl) (by kernel_rfl) (fun _ _ _ h => h) (by rfl) ?_ HX6.out ?_
    rotate_left
    · intro W hSw; (try dsimp only at hSw); go_simp; (try with_reducible rfl)
    simp only [Act.put, List.setIfInBounds_toArray, List.set_cons_zero, List.set_cons_succ]
    refine wpAnyN_rest 10 [_] rfl (by kernel_rfl) (by rfl) ?_
    go_wp2
    go_ret
    exact ⟨rfl, HE.out⟩
end Go.Proofs.YtfbaknkmpilllaaGreatDoor
namespace Go.Proofs.YtfbaknkmpilllaaGreatDoor
open Go.RowKit Go.Maps
set_option linter.unusedSimpArgs false
set_option linter.unusedVariables false
set_option maxRecDepth 100000
theorem dfHas_no {D : List Dfn} {n : List UInt8} {b : Bool} (h : dfHas D n b = false) : ∀ i (hi : i < D.length), ¬ (D[i].nm = n ∧ D[i].nt = b) := by
  intro i hi ⟨e1, e2⟩
  unfold dfHas at h
  rw [List.any_eq_false] at h
  have := h D[i] (List.getElem_mem hi)
  rw [e1, e2] at this
  simp at this
theorem find_none (s : ByteArray) (b : Bool) (w : World) (hs : s.size ≤ 1000) : Calls Tryz.prog 121 #[.pointer none, .string s, .bool b] w fun e w' => e = .returned (dfTib (noDfn, false)) ∧ Below w.heap.size w w' := by
  have cn := fun W => defName_any s W (by omega)
  have b0 : Below w.heap.size w (w.alloc (.cells #[.string ⟨#[]⟩, .string ⟨#[]⟩, .string ⟨#[]⟩, .string ⟨#[]⟩, .bool false] 43)) := (Below.refl _ w).alloc (Nat.le_refl _) _
  have HB0 := Lib.hid b0
  have HZ0 := Lib.hid (dfAt_zero w)
  have hs0 := alloc_size w (.cells #[.string ⟨#[]⟩, .string ⟨#[]⟩, .string ⟨#[]⟩, .string ⟨#[]⟩, .bool false] 43)
  clear b0
  go_enter Tryz.func121, Tryz.ntmps121
  go_wp2_with fail
  refine (cn _).mono ?_
  rintro e w1 ⟨rfl, b1⟩
  have HB1 := Lib.hid (HB0.out.then b1)
  have hz1 := HZ0.out.below b1
  obtain ⟨k0, k1, k2, k3, k4, kf⟩ := hz1.cells
  have HS := Lib.hid (hz1.set noDfn)
  have HW := Lib.hid (below_set5 HB1.out (Nat.le_refl _) (.string ⟨#[]⟩) (.string ⟨#[]⟩) (.string ⟨#[]⟩) (.string ⟨#[]⟩) (.bool false))
  clear hz1 b1 cn
  go_wp2
  (try simp only [Exit.inBlock, Exit.then])
  refine bodyPost_ret (v := dfTib (noDfn, false)) ?_ rfl ⟨rfl, HW.out⟩
  exact ret_df rfl (g := w.heap.size) HS.out rfl rfl
set_option maxHeartbeats 4000000 in
theorem find_any {w : World} {B b : Nat} {v m : Value} {D : List Dfn} (h : TableIs w B b v m D) (s : ByteArray) (nt : Bool) (hs : s.size ≤ 1000) (hl : D.length ≤ 1000) :
    Calls Tryz.prog 121 #[.pointer (some ⟨b, 0, none⟩), .string s, .bool nt] w fun e w' => e = .returned (dfTib (findL D s.data.toList nt)) ∧ Below w.heap.size w w' := by
  have cn := fun W => defName_any s W (by omega)
  unfold findL
  have hlen := dnL_len s.data.toList
  generalize dnL s.data.toList = y at *
  obtain ⟨n, ok⟩ := y
  simp only at cn hlen ⊢
  have hbl := (Array.getElem?_eq_some_iff.1 h.blk).1
  have HH := Lib.hid h
  clear h
  have b0 : Below w.heap.size w (w.alloc (.cells #[.string ⟨#[]⟩, .string ⟨#[]⟩, .string ⟨#[]⟩, .string ⟨#[]⟩, .bool false] 43)) := (Below.refl _ w).alloc (Nat.le_refl _) _
  have HB0 := Lib.hid b0
  have HZ0 := Lib.hid (dfAt_zero w)
  have hs0 := alloc_size w (.cells #[.string ⟨#[]⟩, .string ⟨#[]⟩, .string ⟨#[]⟩, .string ⟨#[]⟩, .bool false] 43)
  clear b0
  cases ok with
  | false =>
    rw [if_neg (by decide)]
    go_enter Tryz.func121, Tryz.ntmps121
    go_wp2_with fail
    refine (cn _).mono ?_
    rintro e w1 ⟨rfl, b1⟩
    have HB1 := Lib.hid (HB0.out.then b1)
    have hz1 := HZ0.out.below b1
    obtain ⟨k0, k1, k2, k3, k4, kf⟩ := hz1.cells
    have HS := Lib.hid (hz1.set noDfn)
    have HW := Lib.hid (below_set5 HB1.out (Nat.le_refl _) (.string ⟨#[]⟩) (.string ⟨#[]⟩) (.string ⟨#[]⟩) (.string ⟨#[]⟩) (.bool false))
    clear hz1 b1 cn
    go_wp2
    (try simp only [Exit.inBlock, Exit.then])
    refine bodyPost_ret (v := dfTib (noDfn, false)) ?_ rfl ⟨rfl, HW.out⟩
    exact ret_df rfl (g := w.heap.size) HS.out rfl rfl
  | true =>
    rw [if_pos rfl]
    by_cases hd : dfHas D n nt = true
    · obtain ⟨j, hj, e1, e2, hfst⟩ := dfHas_at hd
      rw [fdL_at hj e1 e2 hfst]
      obtain ⟨x, hx⟩ : ∃ x, x = D[j] := ⟨_, rfl⟩
      rw [← hx]
      have HX9 := Lib.hid hx
      clear hx
      have HE1 := Lib.hid e1
      have HE2 := Lib.hid e2
      have HJ := Lib.hid hj
      have HDD := Lib.hid hd
      clear e1 e2 hfst hd
      have hj2 : (j : Int) < D.length := by omega
      have hj3 : D.length ≤ 1000 := hl
      go_enter Tryz.func121, Tryz.ntmps121
      go_wp2_with fail
      refine (cn _).mono ?_
      rintro e w1 ⟨rfl, b1⟩
      have HB1 := Lib.hid (HB0.out.then b1)
      have hz1 := HZ0.out.below b1
      obtain ⟨k0, k1, k2, k3, k4, kf⟩ := hz1.cells
      have HS := Lib.hid (hz1.set x)
      have HW := Lib.hid (below_set5 HB1.out (Nat.le_refl _) (.string ⟨x.nm.toArray⟩) (.string ⟨x.url.toArray⟩) (.string ⟨x.ttl.toArray⟩) (.string ⟨x.txt.toArray⟩) (.bool x.nt))
      have HT := Lib.hid ((HH.out.below HB0.out).below b1)
      obtain ⟨A, cap, rfl, hrow⟩ := EltsAt.own dfC_length HT.out.row
      have hcap := hrow.le
      have hcm := hrow.cap
      unfold maxLen at hcm
      obtain ⟨c, hc, hcj⟩ := look_any HT.out (n := n) (t := nt) (by unfold maxLen; omega)
      have hce := hcj j HJ.out HE1.out HE2.out
      subst hce
      have hr1 := hc w1 (fun _ _ => rfl)
      rw [HDD.out] at hr1
      unfold keyV at hr1
      have c0 : w1.cell? ⟨b, 0, none⟩ = some (.slice A D.length cap) := (cell_of_row w1 b 0 _ _ (0, 0) HT.out.blk).trans rfl
      have c1 : w1.cell? ⟨b, 1, none⟩ = some m := (cell_of_row w1 b 1 _ _ (0, 0) HT.out.blk).trans rfl
      obtain ⟨gb, off, rfl, _, d0, d1, d2, d3, d4⟩ := DefsAt.cells5 hrow HJ.out
      clear hc hcj hrow b1 hz1 cn
      rw [← HX9.out] at d0 d1 d2 d3 d4
      go_wp2
      (try simp only [Exit.inBlock, Exit.then])
      refine bodyPost_ret (v := dfTib (x, true)) ?_ rfl ⟨rfl, HW.out⟩
      exact ret_df rfl (g := w.heap.size) HS.out rfl rfl
    · have hd : dfHas D n nt = false := by simpa using hd
      rw [fdL_no (dfHas_no hd)]
      have HDD := Lib.hid hd
      clear hd
      go_enter Tryz.func121, Tryz.ntmps121
      go_wp2_with fail
      refine (cn _).mono ?_
      rintro e w1 ⟨rfl, b1⟩
      have HB1 := Lib.hid (HB0.out.then b1)
      have hz1 := HZ0.out.below b1
      obtain ⟨k0, k1, k2, k3, k4, kf⟩ := hz1.cells
      have HS := Lib.hid (hz1.set noDfn)
      have HW := Lib.hid (below_set5 HB1.out (Nat.le_refl _) (.string ⟨#[]⟩) (.string ⟨#[]⟩) (.string ⟨#[]⟩) (.string ⟨#[]⟩) (.bool false))
      have HT := Lib.hid ((HH.out.below HB0.out).below b1)
      obtain ⟨c, hc, _⟩ := look_any HT.out (n := n) (t := nt) (by unfold maxLen; omega)
      have hr1 := hc w1 (fun _ _ => rfl)
      rw [HDD.out] at hr1
      unfold keyV at hr1
      have c1 : w1.cell? ⟨b, 1, none⟩ = some m := (cell_of_row w1 b 1 _ _ (0, 0) HT.out.blk).trans rfl
      clear hc b1 hz1 cn
      go_wp2
      (try simp only [Exit.inBlock, Exit.then])
      refine bodyPost_ret (v := dfTib (noDfn, false)) ?_ rfl ⟨rfl, HW.out⟩
      exact ret_df rfl (g := w.heap.size) HS.out rfl rfl
end Go.Proofs.YtfbaknkmpilllaaGreatDoor
namespace Go.Proofs.YtfbaknkmpilllaaGreatDoor
open Go.RowKit Go.Maps
set_option linter.unusedSimpArgs false
set_option linter.unusedVariables false
set_option maxRecDepth 100000
end Go.Proofs.YtfbaknkmpilllaaGreatDoor
namespace Go.Proofs.YtfbaknkmpilllaaGreatDoor
open Go.RowKit Go.Maps
set_option linter.unusedSimpArgs false
set_option linter.unusedVariables false
set_option maxRecDepth 100000
end Go.Proofs.YtfbaknkmpilllaaGreatDoor

namespace Go.Proofs.YtfbaknkmpilllaaGreatDoor
open Go.RowKit
set_option linter.unusedSimpArgs false
set_option linter.unusedVariables false
theorem tgBlank_any (r : Int) (w : World) :
    Calls Tryz.prog 153 #[.int .i32 r] w fun e w' => e = .returned (.bool (blkB r)) ∧ w = w' := by
  go_enter Tryz.func153, Tryz.ntmps153
  go_wp2
  all_goals (go_ret; exact ⟨ret_bool (by simp [blkB, *]), rfl⟩)
end Go.Proofs.YtfbaknkmpilllaaGreatDoor

namespace Go.Proofs.YtfbaknkmpilllaaGreatDoor
open Go.RowKit
set_option linter.unusedSimpArgs false
set_option linter.unusedVariables false
def BehRel (T : ByteArray) (w : World) (wr : World) : Prop :=
  ∃ k : Nat, k ≤ T.size ∧ wr.heap[w.heap.size]? = some (.stringIter T k) ∧ Below w.heap.size w wr ∧ k + ((T.data.toList.drop k).takeWhile fun b => blkB b.toNat).length = (T.data.toList.takeWhile fun b => blkB b.toNat).length
set_option maxHeartbeats 1000000 in
theorem behind_any (s : ByteArray) (f : Nat) (w : World) (hf : f ≤ s.size) (hs : s.size ≤ 1099511627776) :
    Calls Tryz.prog 151 #[.string s, .int .i64 f] w fun e w' => e = .returned (.int .i64 (behL s.data.toList f)) ∧ Below w.heap.size w w' := by
  have hsl := slice_lo s f f rfl hf
  have HV := Lib.hid (show behL s.data.toList f = f + ((s.extract f s.size).data.toList.takeWhile fun b => blkB b.toNat).length from by unfold behL; rw [drop_ext])
  have hz := ext_size s f
  go_enter Tryz.func151, Tryz.ntmps151
  generalize s.extract f s.size = T at *
  go_wp2_with fail
  go_loopw [] (fun wr => BehRel T w wr) (fun wr => T.size - wr.iterPos w.heap.size)
  case atStart => exact ⟨0, Nat.zero_le _, World.iter_heap w T 0, (Below.refl _ w).alloc (Nat.le_refl _) _, by simp⟩
  case round =>
    obtain ⟨k, hk, hit, hbw, hst⟩ := hrel
    by_cases hp : k < T.size
    · have hnx : ∀ ty, (Instr.next (.pointer (some ⟨w.heap.size, 0, none⟩)) true ty).run Tryz.prog wr = _ := fun ty => Lib.run_next_any_at wr w.heap.size T k ty hit hp
      have hit2 := Lib.iterAt_heap wr w.heap.size T k (k + (Utf8.decode T k).2) hit
      have hbw2 := Lib.below_iterAt hbw (k := w.heap.size) (by omega) T (k + (Utf8.decode T k).2)
      have Hit := Lib.hid hit
      rw [get_list T k hp] at hst
      clear hit hbw
      by_cases ha : T[k].toNat < 128
      · have hd : Utf8.decode T k = (T[k].toNat, 1) := decode_ascii T k hp ha
        rw [hd] at hnx hit2 hbw2
        simp only at hnx hit2 hbw2
        clear hd
        have cb := fun w => tgBlank_any T[k].toNat w
        generalize T[k] = b at *
        cases hb : blkB b.toNat with
        | true =>
          rw [hb] at cb
          rw [takeW_cons hb] at hst
          have HS := Lib.hid hst
          have CB := Lib.hid cb
          clear hst cb hb
          go_wp2_with (go_at_call 153; refine (CB.out _).mono ?_; rintro e w' ⟨rfl, rfl⟩)
          go_roundw
          case rel => exact ⟨k + 1, by omega, hit2, hbw2, by have := HS.out; omega⟩
          case measure => simp only [World.iterPos, hit2, Hit.out]; omega
        | false =>
          rw [hb] at cb
          rw [takeW_stop hb] at hst
          have HS := Lib.hid (show behL s.data.toList f = f + k from by rw [HV.out, ← hst]; rfl)
          have CB := Lib.hid cb
          clear hst cb hb
          go_wp2_with (go_at_call 153; refine (CB.out _).mono ?_; rintro e w' ⟨rfl, rfl⟩)
          go_ret
          exact ⟨by rw [HS.out]; rfl, hbw2⟩
      · obtain ⟨d2, d3⟩ := decode_high T k hp (by omega)
        have cb := fun w => tgBlank_any (Utf8.decode T k).1 w
        rw [blkB_high (by omega)] at cb
        rw [takeW_stop (blkB_high (by omega))] at hst
        have HS := Lib.hid (show behL s.data.toList f = f + k from by rw [HV.out, ← hst]; rfl)
        have CB := Lib.hid cb
        clear hst cb ha
        generalize (Utf8.decode T k).1 = r at *
        generalize (Utf8.decode T k).2 = d at *
        go_wp2_with (go_at_call 153; refine (CB.out _).mono ?_; rintro e w' ⟨rfl, rfl⟩)
        go_ret
        exact ⟨by rw [HS.out]; rfl, hbw2⟩
    · have hnx : ∀ ty, (Instr.next (.pointer (some ⟨w.heap.size, 0, none⟩)) true ty).run Tryz.prog wr = _ := fun ty => Lib.run_next_end_at wr w.heap.size T k ty hit hp
      rw [drop_all' T k hp] at hst
      have HS := Lib.hid (show behL s.data.toList f = s.size from by
        rw [HV.out, ← hst]
        show f + (k + 0) = s.size
        omega)
      clear hst
      go_wp2
      go_ret
      exact ⟨by rw [HS.out]; rfl, hbw⟩
end Go.Proofs.YtfbaknkmpilllaaGreatDoor

namespace Go.Proofs.YtfbaknkmpilllaaGreatDoor
open Go.RowKit
set_option linter.unusedSimpArgs false
set_option linter.unusedVariables false
def ttib (x : List UInt8 × List UInt8 × Nat × Bool) : Value := .tuple #[.string ⟨x.1.toArray⟩, .string ⟨x.2.1.toArray⟩, .int .i64 x.2.2.1, .bool x.2.2.2]
set_option maxHeartbeats 2000000 in
set_option maxRecDepth 100000 in
theorem inside_any (s : ByteArray) (w : World) (hn : NamedIs w) (hs : s.size ≤ 1099511627776) :
    Calls Tryz.prog 124 #[.string s] w fun e w' => e = .returned (ttib (insideL s.data.toList)) ∧ Below w.heap.size w w' := by
  have HLL := Lib.hid (show s.data.toList.length = s.size from by simp)
  have p1 := fun w => Tryz.strings_HasPrefix s ⟨#[40]⟩ w
  rw [show (⟨#[40]⟩ : ByteArray).data.toList = [40] from rfl] at p1
  cases h1 : Lib.hasPrefix s.data.toList [40] with
  | false =>
    rw [h1] at p1
    have HR := Lib.hid (show insideL s.data.toList = ([], [], 0, false) from by unfold insideL; rw [if_neg (by rw [h1]; simp)])
    have P1 := Lib.hid p1
    clear p1 h1 hn
    go_enter Tryz.func124, Tryz.ntmps124
    go_wp2_with fail
    refine (P1.out _).mono ?_
    rintro e w' ⟨rfl, rfl⟩
    go_wp2
    refine bodyPost_ret (results_tmp4 rfl _ _ _) rfl ?_
    exact ⟨by rw [HR.out]; rfl, Below.refl _ _⟩
  | true =>
    rw [h1] at p1
    obtain ⟨h0, _⟩ := prefix_first h1
    have HR := Lib.hid (show insideL s.data.toList = insL2 s.data.toList (destL (s.data.toList.drop (behL s.data.toList 1))).1 (behL s.data.toList (behL s.data.toList 1 + (destL (s.data.toList.drop (behL s.data.toList 1))).2.1)) from by unfold insideL; rw [if_pos h1])
    have c1 := behind_any s 1 w (by omega) hs
    rw [show ((1 : Nat) : Int) = 1 from rfl] at c1
    have k1 := behL_le s.data.toList 1 (by rw [HLL.out]; omega)
    rw [HLL.out] at k1
    generalize behL s.data.toList 1 = a1 at *
    have hsl1 := slice_lo s a1 a1 rfl k1.2
    have c2 := fun W hn => dest_any (s.extract a1 s.size) W hn (by rw [ext_size]; omega)
    rw [drop_ext] at c2
    have k2 := destL_le (s.data.toList.drop a1)
    rw [List.length_drop, HLL.out] at k2
    generalize destL (s.data.toList.drop a1) = x at *
    obtain ⟨U, z, u⟩ := x
    unfold tib at c2
    simp only at c2 k2 HR
    have c3 := fun W => behind_any s (a1 + z) W (by omega) hs
    have k3 := behL_le s.data.toList (a1 + z) (by rw [HLL.out]; omega)
    rw [HLL.out] at k3
    generalize behL s.data.toList (a1 + z) = a2 at *
    have hix := index_str s ((a2 : Int) - 1) (a2 - 1) (by omega) (by omega)
    have c4 := fun W => tgBlank_any s[a2 - 1].toNat W
    have hbt : s[a2 - 1].toNat < 256 := s[a2 - 1].toNat_lt
    have HG := Lib.hid (getD_str s (a2 - 1) (by omega))
    have P1 := Lib.hid p1
    have HN := Lib.hid hn
    have C2 := Lib.hid c2
    rw [show ((a1 + z : Nat) : Int) = (a1 : Int) + (z : Int) from by omega] at c3
    have C3 := Lib.hid c3
    clear p1 h1 hn c2 c3
    cases hb : blkB s[a2 - 1].toNat with
    | false =>
      rw [hb] at c4
      have C4 := Lib.hid c4
      have hsl2 := slice_lo s a2 a2 rfl k3.2
      have p2 := fun w => Tryz.strings_HasPrefix (s.extract a2 s.size) ⟨#[41]⟩ w
      rw [show (⟨#[41]⟩ : ByteArray).data.toList = [41] from rfl, drop_ext] at p2
      have HR2 := Lib.hid (show insideL s.data.toList = shutL s.data.toList U [] a2 from by rw [HR.out]; unfold insL2; rw [HG.out, if_neg (by rw [hb]; simp)])
      clear HR HG hb c4
      generalize s[a2 - 1] = b at *
      cases h2 : Lib.hasPrefix (s.data.toList.drop a2) [41] with
      | false =>
        rw [h2] at p2
        have HR3 := Lib.hid (show insideL s.data.toList = ([], [], 0, false) from by rw [HR2.out]; unfold shutL; rw [if_neg (by rw [h2]; simp)])
        have P2 := Lib.hid p2
        clear HR2 h2 p2
        go_enter Tryz.func124, Tryz.ntmps124
        go_wp2_with fail
        refine (P1.out _).mono ?_
        rintro e w' ⟨rfl, rfl⟩
        go_wp2_with fail
        refine c1.mono ?_
        rintro e w1 ⟨rfl, b1⟩
        go_wp2_with fail
        refine (C2.out _ (HN.out.below b1)).mono ?_
        rintro e w2 ⟨rfl, b2⟩
        have q2 := b1.then b2
        go_wp2_with fail
        refine (C3.out _).mono ?_
        rintro e w3 ⟨rfl, b3⟩
        have q3 := q2.then b3
        go_wp2_with fail
        refine (C4.out _).mono ?_
        rintro e w' ⟨rfl, rfl⟩
        go_wp2_with fail
        refine (P2.out _).mono ?_
        rintro e w' ⟨rfl, rfl⟩
        go_wp2
        refine bodyPost_ret (results_tmp4 rfl _ _ _) rfl ?_
        exact ⟨by rw [HR3.out]; rfl, q3⟩
      | true =>
        rw [h2] at p2
        have HR3 := Lib.hid (show insideL s.data.toList = (U, [], a2 + 1, true) from by rw [HR2.out]; unfold shutL; rw [if_pos h2])
        have P2 := Lib.hid p2
        clear HR2 h2 p2
        go_enter Tryz.func124, Tryz.ntmps124
        go_wp2_with fail
        refine (P1.out _).mono ?_
        rintro e w' ⟨rfl, rfl⟩
        go_wp2_with fail
        refine c1.mono ?_
        rintro e w1 ⟨rfl, b1⟩
        go_wp2_with fail
        refine (C2.out _ (HN.out.below b1)).mono ?_
        rintro e w2 ⟨rfl, b2⟩
        have q2 := b1.then b2
        go_wp2_with fail
        refine (C3.out _).mono ?_
        rintro e w3 ⟨rfl, b3⟩
        have q3 := q2.then b3
        go_wp2_with fail
        refine (C4.out _).mono ?_
        rintro e w' ⟨rfl, rfl⟩
        go_wp2_with fail
        refine (P2.out _).mono ?_
        rintro e w' ⟨rfl, rfl⟩
        go_wp2
        refine bodyPost_ret (results_tmp4 rfl _ _ _) rfl ?_
        exact ⟨by rw [HR3.out]; rfl, q3⟩
    | true =>
      rw [hb] at c4
      have C4 := Lib.hid c4
      have hsl2 := slice_lo s a2 a2 rfl k3.2
      have c5 := fun W hn => title_any (s.extract a2 s.size) W hn (by rw [ext_size]; omega)
      rw [drop_ext] at c5
      have k5 := titleL_le (s.data.toList.drop a2)
      rw [List.length_drop, HLL.out] at k5
      have HR2 := Lib.hid (show insideL s.data.toList = shutL s.data.toList U (titleL (s.data.toList.drop a2)).1 (behL s.data.toList (a2 + (titleL (s.data.toList.drop a2)).2.1)) from by rw [HR.out]; unfold insL2; rw [HG.out, if_pos hb])
      clear HR HG hb c4
      generalize s[a2 - 1] = b at *
      generalize titleL (s.data.toList.drop a2) = y at *
      obtain ⟨T, z2, u2⟩ := y
      unfold tib at c5
      simp only at c5 k5 HR2
      have C5 := Lib.hid c5
      clear c5
      have c6 := fun W => behind_any s (a2 + z2) W (by omega) hs
      have k6 := behL_le s.data.toList (a2 + z2) (by rw [HLL.out]; omega)
      rw [HLL.out] at k6
      generalize behL s.data.toList (a2 + z2) = a3 at *
      rw [show ((a2 + z2 : Nat) : Int) = (a2 : Int) + (z2 : Int) from by omega] at c6
      have C6 := Lib.hid c6
      clear c6
      have hsl3 := slice_lo s a3 a3 rfl k6.2
      have p2 := fun w => Tryz.strings_HasPrefix (s.extract a3 s.size) ⟨#[41]⟩ w
      rw [show (⟨#[41]⟩ : ByteArray).data.toList = [41] from rfl, drop_ext] at p2
      cases h2 : Lib.hasPrefix (s.data.toList.drop a3) [41] with
      | false =>
        rw [h2] at p2
        have HR3 := Lib.hid (show insideL s.data.toList = ([], [], 0, false) from by rw [HR2.out]; unfold shutL; rw [if_neg (by rw [h2]; simp)])
        have P2 := Lib.hid p2
        clear HR2 h2 p2
        go_enter Tryz.func124, Tryz.ntmps124
        go_wp2_with fail
        refine (P1.out _).mono ?_
        rintro e w' ⟨rfl, rfl⟩
        go_wp2_with fail
        refine c1.mono ?_
        rintro e w1 ⟨rfl, b1⟩
        go_wp2_with fail
        refine (C2.out _ (HN.out.below b1)).mono ?_
        rintro e w2 ⟨rfl, b2⟩
        have q2 := b1.then b2
        go_wp2_with fail
        refine (C3.out _).mono ?_
        rintro e w3 ⟨rfl, b3⟩
        have q3 := q2.then b3
        go_wp2_with fail
        refine (C4.out _).mono ?_
        rintro e w' ⟨rfl, rfl⟩
        go_wp2_with fail
        refine (C5.out _ (HN.out.below q3)).mono ?_
        rintro e w4 ⟨rfl, b4⟩
        have q4 := q3.then b4
        go_wp2_with fail
        refine (C6.out _).mono ?_
        rintro e w5 ⟨rfl, b5⟩
        have q5 := q4.then b5
        go_wp2_with fail
        refine (P2.out _).mono ?_
        rintro e w' ⟨rfl, rfl⟩
        go_wp2
        refine bodyPost_ret (results_tmp4 rfl _ _ _) rfl ?_
        exact ⟨by rw [HR3.out]; rfl, q5⟩
      | true =>
        rw [h2] at p2
        have HR3 := Lib.hid (show insideL s.data.toList = (U, T, a3 + 1, true) from by rw [HR2.out]; unfold shutL; rw [if_pos h2])
        have P2 := Lib.hid p2
        clear HR2 h2 p2
        go_enter Tryz.func124, Tryz.ntmps124
        go_wp2_with fail
        refine (P1.out _).mono ?_
        rintro e w' ⟨rfl, rfl⟩
        go_wp2_with fail
        refine c1.mono ?_
        rintro e w1 ⟨rfl, b1⟩
        go_wp2_with fail
        refine (C2.out _ (HN.out.below b1)).mono ?_
        rintro e w2 ⟨rfl, b2⟩
        have q2 := b1.then b2
        go_wp2_with fail
        refine (C3.out _).mono ?_
        rintro e w3 ⟨rfl, b3⟩
        have q3 := q2.then b3
        go_wp2_with fail
        refine (C4.out _).mono ?_
        rintro e w' ⟨rfl, rfl⟩
        go_wp2_with fail
        refine (C5.out _ (HN.out.below q3)).mono ?_
        rintro e w4 ⟨rfl, b4⟩
        have q4 := q3.then b4
        go_wp2_with fail
        refine (C6.out _).mono ?_
        rintro e w5 ⟨rfl, b5⟩
        have q5 := q4.then b5
        go_wp2_with fail
        refine (P2.out _).mono ?_
        rintro e w' ⟨rfl, rfl⟩
        go_wp2
        refine bodyPost_ret (results_tmp4 rfl _ _ _) rfl ?_
        exact ⟨by rw [HR3.out]; rfl, q5⟩
end Go.Proofs.YtfbaknkmpilllaaGreatDoor
