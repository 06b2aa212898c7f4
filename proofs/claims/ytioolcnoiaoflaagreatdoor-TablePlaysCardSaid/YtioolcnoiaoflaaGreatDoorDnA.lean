/-
  Package define: Name, noteOf, lastTitle, linkOf: what each answers, in plain words.
  Package define: lastTitle, linkOf: what each answers, in plain words.
  Package define: Line: what it answers, in plain words.
  Package define: Take: what it answers, in plain words.
-/
import Derived.Test.YtioolcnoiaoflaaGreatDoorDefP
import Derived.Test.YtioolcnoiaoflaaGreatDoorBlkT
import Derived.Test.YtioolcnoiaoflaaGreatDoorTgtB
import Derived.Test.YtioolcnoiaoflaaGreatDoorRepairF
import Derived.Laws.ResultCell
import Derived.Test.YtioolcnoiaoflaaGreatDoorDnL
import Derived.Test.YtioolcnoiaoflaaGreatDoorFlt
import Derived.Test.YtioolcnoiaoflaaGreatDoorDefR
import Derived.OwnWalk
namespace Go.Proofs.YtioolcnoiaoflaaGreatDoor
open Go.RowKit
set_option linter.unusedSimpArgs false
set_option linter.unusedVariables false
set_option maxRecDepth 100000

theorem emp_yes {X : ByteArray} (h : X.data.toList = []) : X.toList.isEmpty = true ∧ (X.toList == []) = true := by
  rw [ByteArray.toList_eq, h]; exact ⟨rfl, rfl⟩
theorem emp_no {X : ByteArray} (h : ¬ X.data.toList = []) : X.toList.isEmpty = false ∧ (X.toList == []) = false := by
  rw [ByteArray.toList_eq]
  cases hx : X.data.toList with
  | nil => exact absurd hx h
  | cons b l => exact ⟨rfl, rfl⟩

/-! ### Name -/
def NmRel (s : ByteArray) (w : World) (I : Nat) (z : Value) (wr : World) : Prop :=
  ∃ k : Nat, z = .string ⟨#[]⟩ ∧ k ≤ s.size ∧ wr.heap[I]? = some (.stringIter s k) ∧ Below w.heap.size w wr ∧ badN (s.data.toList.drop k) = badN s.data.toList
theorem badN_cons (b : UInt8) (l : List UInt8) : badN (b :: l) = (b == 91 || b == 93 || b == 10 || b == 0 || badN l) := rfl
theorem badN_high : ∀ (m l : List UInt8), (∀ b ∈ m, 128 ≤ b.toNat) → badN (m ++ l) = badN l
  | [], _, _ => rfl
  | b :: m, l, h => by
    have hb := h b (by simp)
    rw [List.cons_append, badN_cons, badN_high m l (fun x hx => h x (by simp [hx]))]
    have h1 : (b == 91) = false := by rw [beq_eq_false_iff_ne]; rintro rfl; exact absurd hb (by decide)
    have h2 : (b == 93) = false := by rw [beq_eq_false_iff_ne]; rintro rfl; exact absurd hb (by decide)
    have h3 : (b == 10) = false := by rw [beq_eq_false_iff_ne]; rintro rfl; exact absurd hb (by decide)
    have h4 : (b == 0) = false := by rw [beq_eq_false_iff_ne]; rintro rfl; exact absurd hb (by decide)
    rw [h1, h2, h3, h4]
    rfl
/-- A rune goes by that is none of the four. -/
theorem badN_rune (s : ByteArray) (k : Nat) (h : k < s.size) (hb : (s[k] == 91 || s[k] == 93 || s[k] == 10 || s[k] == 0) = false) : badN (s.data.toList.drop k) = badN (s.data.toList.drop (k + (Utf8.decode s k).2)) := by
  have h2 := decode_tail s k h
  have h1 := (decode_step s k h)
  obtain ⟨j, hj⟩ : ∃ j, (Utf8.decode s k).2 = j + 1 := ⟨(Utf8.decode s k).2 - 1, by omega⟩
  rw [hj] at h2 ⊢
  have hl : s.data.toList.length = s.size := by simp
  rw [get_list s k h, badN_cons, hb, Bool.false_or]
  have e : s.data.toList.drop (k + 1) = (s.data.toList.drop (k + 1)).take j ++ s.data.toList.drop (k + (j + 1)) := by
    have e3 : s.data.toList.drop (k + (j + 1)) = (s.data.toList.drop (k + 1)).drop j := by rw [List.drop_drop]; congr 1; omega
    rw [e3, List.take_append_drop]
  rw [e]
  refine badN_high _ _ ?_
  intro b hb2
  obtain ⟨i, hi, rfl⟩ := List.mem_iff_getElem.1 hb2
  rw [List.length_take, List.length_drop] at hi
  have h3 := h2.2 (i + 1) (by omega) (by omega)
  rw [get!_list s (k + (i + 1)) (by omega)] at h3
  rw [List.getElem_take, List.getElem_drop]
  have e2 : k + 1 + i = k + (i + 1) := by omega
  simp only [e2]
  exact h3

set_option maxHeartbeats 8000000 in
theorem defName_any (s : ByteArray) (w : World) (hs : s.size ≤ 17592186044416) :
    Calls Tryz.prog 6 #[.string s] w fun e w' => e = .returned (.tuple #[.string ⟨(dnL s.data.toList).1.toArray⟩, .bool (dnL s.data.toList).2]) ∧ Below w.heap.size w w' := by
  have cf := fun w1 => fold_any s w1 hs
  rw [foldB_segs] at cf
  have CF := Lib.hid cf
  clear cf
  go_enter Tryz.func6, Tryz.ntmps6
  go_wp2_with fail
  go_loopw [2] (fun z wr => NmRel s w w.heap.size z wr) (fun _ wr => s.size - wr.iterPos w.heap.size)
  case atStart => exact ⟨0, rfl, Nat.zero_le _, World.iter_heap w s 0, (Below.refl _ w).alloc (Nat.le_refl _) _, by simp⟩
  case round =>
    obtain ⟨k, rfl, hk, hit, hbw, hsz⟩ := hrel
    by_cases hp : k < s.size
    · have hnx : ∀ ty, (Instr.next (.pointer (some ⟨w.heap.size, 0, none⟩)) true ty).run Tryz.prog wr = _ := fun ty => Lib.run_next_any_at wr w.heap.size s k ty hit hp
      have hit2 := Lib.iterAt_heap wr w.heap.size s k (k + (Utf8.decode s k).2) hit
      have hbw2 := Lib.below_iterAt hbw (k := w.heap.size) (by omega) s (k + (Utf8.decode s k).2)
      have Hit := Lib.hid hit
      have hdt := (decode_tail s k hp).1
      have hds := decode_step s k hp
      have q91 := rune_is s k hp 91 (by decide)
      have q93 := rune_is s k hp 93 (by decide)
      have q10 := rune_is s k hp 10 (by decide)
      have q0 := rune_is s k hp 0 (by decide)
      clear hit hbw
      cases hg : (s[k] == 91 || s[k] == 93 || s[k] == 10 || s[k] == 0) with
      | true =>
        have HB := Lib.hid (show badN s.data.toList = true from by rw [← hsz, get_list s k hp, badN_cons, hg]; rfl)
        have hor : s[k] = 91 ∨ s[k] = 93 ∨ s[k] = 10 ∨ s[k] = 0 := by simpa [or_assoc] using hg
        have HR := Lib.hid (show dnL s.data.toList = ([], false) from by unfold dnL; rw [if_pos (by rw [HB.out]; simp)])
        clear hsz hg hdt hds HB
        rcases hor with h | h | h | h
        · have n1 : ((Utf8.decode s k).1 : Int) == 91 := by have := q91.2 h; simp at this ⊢; omega
          rw [h] at *
          have hn1 : (((Utf8.decode s k).1 : Int) == 91) = true := n1
          clear q91 q93 q10 q0 h n1
          go_wp2
          go_ret2
          exact ⟨by rw [HR.out]; rfl, hbw2⟩
        · have n0 : (((Utf8.decode s k).1 : Int) == 91) = false := by have := q93.2 h; simp at this ⊢; omega
          have n1 : (((Utf8.decode s k).1 : Int) == 93) = true := by have := q93.2 h; simp at this ⊢; omega
          clear q91 q93 q10 q0 h
          go_wp2
          go_ret2
          exact ⟨by rw [HR.out]; rfl, hbw2⟩
        · have n0 : (((Utf8.decode s k).1 : Int) == 91) = false := by have := q10.2 h; simp at this ⊢; omega
          have n1 : (((Utf8.decode s k).1 : Int) == 93) = false := by have := q10.2 h; simp at this ⊢; omega
          have n2 : (((Utf8.decode s k).1 : Int) == 10) = true := by have := q10.2 h; simp at this ⊢; omega
          clear q91 q93 q10 q0 h
          go_wp2
          go_ret2
          exact ⟨by rw [HR.out]; rfl, hbw2⟩
        · have n0 : (((Utf8.decode s k).1 : Int) == 91) = false := by have := q0.2 h; simp at this ⊢; omega
          have n1 : (((Utf8.decode s k).1 : Int) == 93) = false := by have := q0.2 h; simp at this ⊢; omega
          have n2 : (((Utf8.decode s k).1 : Int) == 10) = false := by have := q0.2 h; simp at this ⊢; omega
          have n3 : (((Utf8.decode s k).1 : Int) == 0) = true := by have := q0.2 h; simp at this ⊢; omega
          clear q91 q93 q10 q0 h
          go_wp2
          go_ret2
          exact ⟨by rw [HR.out]; rfl, hbw2⟩
      | false =>
        have HS := Lib.hid (show badN (s.data.toList.drop (k + (Utf8.decode s k).2)) = badN s.data.toList from by rw [← badN_rune s k hp hg, hsz])
        have hg2 : ¬ s[k] = 91 ∧ ¬ s[k] = 93 ∧ ¬ s[k] = 10 ∧ ¬ s[k] = 0 := by
          simp only [Bool.or_eq_false_iff, beq_eq_false_iff_ne, ne_eq] at hg
          exact ⟨hg.1.1.1, hg.1.1.2, hg.1.2, hg.2⟩
        have n0 : (((Utf8.decode s k).1 : Int) == 91) = false := by have := mt q91.1 hg2.1; simp at this ⊢; omega
        have n1 : (((Utf8.decode s k).1 : Int) == 93) = false := by have := mt q93.1 hg2.2.1; simp at this ⊢; omega
        have n2 : (((Utf8.decode s k).1 : Int) == 10) = false := by have := mt q10.1 hg2.2.2.1; simp at this ⊢; omega
        have n3 : (((Utf8.decode s k).1 : Int) == 0) = false := by have := mt q0.1 hg2.2.2.2; simp at this ⊢; omega
        have HD := Lib.hid (And.intro hdt hds)
        clear hsz hg hg2 q91 q93 q10 q0 hdt hds
        go_wp2
        go_roundw
        case rel => exact ⟨k + (Utf8.decode s k).2, rfl, HD.out.1, hit2, hbw2, HS.out⟩
        case measure => have := HD.out; simp only [World.iterPos, hit2, Hit.out]; omega
    · have hnx : ∀ ty, (Instr.next (.pointer (some ⟨w.heap.size, 0, none⟩)) true ty).run Tryz.prog wr = _ := fun ty => Lib.run_next_end_at wr w.heap.size s k ty hit hp
      have e : s.data.toList.drop k = [] := List.drop_eq_nil_of_le (by simp; omega)
      rw [e] at hsz
      have hbad : badN s.data.toList = false := hsz.symm
      have HD := Lib.hid (show dnL s.data.toList = if (foldL s.data.toList).isEmpty || decide (60 < (foldL s.data.toList).length) then ([], false) else (foldL s.data.toList, true) from by unfold dnL; rw [hbad, Bool.or_false])
      clear e hsz hbad
      generalize foldL s.data.toList = F at *
      obtain ⟨X, hX, rfl⟩ := text_of' F
      rw [hX] at CF
      have hlen : X.data.toList.length = X.size := by simp
      by_cases h0 : X.data.toList = []
      · obtain ⟨e1, e2⟩ := emp_yes h0
        have HR := Lib.hid (show dnL s.data.toList = ([], false) from by rw [HD.out, h0]; rfl)
        clear HD h0 hlen hX
        go_wp2_with fail
        refine (CF.out _).mono ?_
        rintro e w1 ⟨rfl, b1⟩
        go_wp2
        go_ret2
        exact ⟨by rw [HR.out]; rfl, hbw.then b1⟩
      · obtain ⟨e1, e2⟩ := emp_no h0
        by_cases h6 : 60 < X.size
        · have n1 : decide ((X.size : Int) > 60) = true := by simp; omega
          have n2 : (60 : Int) < (X.size : Int) := by omega
          have HR := Lib.hid (show dnL s.data.toList = ([], false) from by rw [HD.out, if_pos (by rw [hlen]; simp [h6])])
          clear HD h6 h0 hlen hX
          go_wp2_with fail
          refine (CF.out _).mono ?_
          rintro e w1 ⟨rfl, b1⟩
          go_wp2
          go_ret2
          exact ⟨by rw [HR.out]; rfl, hbw.then b1⟩
        · have n1 : decide ((X.size : Int) > 60) = false := by simp; omega
          have n2 : ¬ (60 : Int) < (X.size : Int) := by omega
          have HR := Lib.hid (show dnL s.data.toList = (X.data.toList, true) from by rw [HD.out, if_neg (by rw [hlen]; cases h : X.data.toList with | nil => exact absurd h h0 | cons b l => simp; omega)])
          clear HD h6 h0 hlen hX
          go_wp2_with fail
          refine (CF.out _).mono ?_
          rintro e w1 ⟨rfl, b1⟩
          go_wp2
          go_ret2
          exact ⟨by rw [HR.out]; show _ = Ending.returned (.tuple #[.string ⟨X.data.toList.toArray⟩, .bool true]); rw [Lib.mk_data]; rfl, hbw.then b1⟩

/-! ### A definition in a cell, and as a result -/
def dfV (x : Dfn) : Value := .agg #[.string ⟨x.nm.toArray⟩, .string ⟨x.url.toArray⟩, .string ⟨x.ttl.toArray⟩, .string ⟨x.txt.toArray⟩, .bool x.nt]
def DfAt (w : World) (g : Nat) (x : Dfn) : Prop := w.heap[g]? = some (.cells #[.string ⟨x.nm.toArray⟩, .string ⟨x.url.toArray⟩, .string ⟨x.ttl.toArray⟩, .string ⟨x.txt.toArray⟩, .bool x.nt] 26 (0, 0))
theorem DfAt.below {w w' : World} {g : Nat} {b : Dfn} (h : DfAt w g b) (hb : Below w.heap.size w w') : DfAt w' g b := (hb.block g (Array.getElem?_eq_some_iff.1 h).1).trans h
theorem DfAt.cells {w : World} {g : Nat} {x : Dfn} (h : DfAt w g x) : w.cell? ⟨g, 0, none⟩ = some (.string ⟨x.nm.toArray⟩) ∧ w.cell? ⟨g, 1, none⟩ = some (.string ⟨x.url.toArray⟩) ∧ w.cell? ⟨g, 2, none⟩ = some (.string ⟨x.ttl.toArray⟩) ∧
    w.cell? ⟨g, 3, none⟩ = some (.string ⟨x.txt.toArray⟩) ∧ w.cell? ⟨g, 4, none⟩ = some (.bool x.nt) ∧ ∀ i, w.frozen? ⟨g, i, none⟩ = false := by
  unfold DfAt at h
  refine ⟨?_, ?_, ?_, ?_, ?_, fun i => by simp [World.frozen?, h]⟩
  · rw [cell_of_row w _ 0 _ _ (0, 0) h]; rfl
  · rw [cell_of_row w _ 1 _ _ (0, 0) h]; rfl
  · rw [cell_of_row w _ 2 _ _ (0, 0) h]; rfl
  · rw [cell_of_row w _ 3 _ _ (0, 0) h]; rfl
  · rw [cell_of_row w _ 4 _ _ (0, 0) h]; rfl
/-- All five cells set anew. -/
theorem DfAt.set {w : World} {g : Nat} {b : Dfn} (h : DfAt w g b) (y : Dfn) :
    DfAt (((((w.setCell ⟨g, 0, none⟩ (.string ⟨y.nm.toArray⟩)).setCell ⟨g, 1, none⟩ (.string ⟨y.url.toArray⟩)).setCell ⟨g, 2, none⟩ (.string ⟨y.ttl.toArray⟩)).setCell ⟨g, 3, none⟩ (.string ⟨y.txt.toArray⟩)).setCell ⟨g, 4, none⟩ (.bool y.nt)) g y := by
  unfold DfAt at *
  simp [World.setCell, Array.getElem?_modify, h]
theorem below_set5 {B : Nat} {w0 w : World} {g : Nat} (h : Below B w0 w) (hg : B ≤ g) (u0 u1 u2 u3 u4 : Value) :
    Below B w0 (((((w.setCell ⟨g, 0, none⟩ u0).setCell ⟨g, 1, none⟩ u1).setCell ⟨g, 2, none⟩ u2).setCell ⟨g, 3, none⟩ u3).setCell ⟨g, 4, none⟩ u4) :=
  ((((h.setCell (p := ⟨g, 0, none⟩) hg u0).setCell (p := ⟨g, 1, none⟩) hg u1).setCell (p := ⟨g, 2, none⟩) hg u2).setCell (p := ⟨g, 3, none⟩) hg u3).setCell (p := ⟨g, 4, none⟩) hg u4
theorem dfAt_new (w : World) (x : Dfn) : DfAt (w.alloc (.cells #[.string ⟨x.nm.toArray⟩, .string ⟨x.url.toArray⟩, .string ⟨x.ttl.toArray⟩, .string ⟨x.txt.toArray⟩, .bool x.nt] 26)) w.heap.size x := heap_alloc_new w _
theorem dfAt_zero (w : World) : DfAt (w.alloc (.cells #[.string ⟨#[]⟩, .string ⟨#[]⟩, .string ⟨#[]⟩, .string ⟨#[]⟩, .bool false] 26)) w.heap.size noDfn := heap_alloc_new w _
theorem ret_df {fn : Func} {p u : Tmp} (hres : fn.results = #[.cell p 26, .tmp u]) {W : World} {g : Nat} {b : Dfn} (h : DfAt W g b) {c : Value} {tmps : Array Value} (h2 : tmps.getD p undef = .pointer (some ⟨g, 0, none⟩)) (h3 : tmps.getD u undef = c) :
    (results fn tmps).run Tryz.prog W = .ok (.tuple #[dfV b, c]) W := by
  obtain ⟨c0, c1, c2, c3, c4, _⟩ := h.cells
  rw [results_cell_tmp hres, h2, h3]
  go_simp
  rfl
def dfTib (x : Dfn × Bool) : Value := .tuple #[dfV x.1, .bool x.2]

set_option maxHeartbeats 4000000 in
theorem noteOf_any (s t : ByteArray) (w : World) (hs : s.size ≤ 17592186044416) :
    Calls Tryz.prog 24 #[.string s, .string t] w fun e w' => e = .returned (dfTib (noteL s.data.toList t.data.toList)) ∧ Below w.heap.size w w' := by
  have b0 : Below w.heap.size w (w.alloc (.cells #[.string ⟨#[]⟩, .string ⟨#[]⟩, .string ⟨#[]⟩, .string ⟨#[]⟩, .bool false] 26)) := (Below.refl _ w).alloc (Nat.le_refl _) _
  have z0 := dfAt_zero w
  have c1 := fun w1 => defName_any s w1 hs
  unfold noteL
  generalize dnL s.data.toList = d at *
  obtain ⟨n, ok⟩ := d
  simp only at c1 ⊢
  have HB0 := Lib.hid b0
  have HZ0 := Lib.hid z0
  have hs0 := alloc_size w (.cells #[.string ⟨#[]⟩, .string ⟨#[]⟩, .string ⟨#[]⟩, .string ⟨#[]⟩, .bool false] 26)
  clear b0 z0
  by_cases hy : ok = true ∧ ¬ t.data.toList = []
  · obtain ⟨rfl, ht⟩ := hy
    obtain ⟨e1, e2⟩ := emp_no ht
    rw [if_pos (by cases h : t.data.toList with | nil => exact absurd h ht | cons b l => rfl)]
    clear ht
    go_enter Tryz.func24, Tryz.ntmps24
    go_wp2_with fail
    refine (c1 _).mono ?_
    rintro e w1 ⟨rfl, b1⟩
    have HB1 := Lib.hid (HB0.out.then b1)
    have hz1 := HZ0.out.below b1
    obtain ⟨k0, k1, k2, k3, k4, kf⟩ := hz1.cells
    have hst := hz1.set ⟨n, [], [], t.data.toList, true⟩
    rw [show (⟨t.data.toList.toArray⟩ : ByteArray) = t from Lib.mk_data t] at hst
    have HS := Lib.hid hst
    have HW := Lib.hid (below_set5 HB1.out (Nat.le_refl _) (.string ⟨n.toArray⟩) (.string ⟨#[]⟩) (.string ⟨#[]⟩) (.string t) (.bool true))
    clear hst hz1 b1
    go_wp2
    (try simp only [Exit.inBlock, Exit.then])
    refine bodyPost_ret (v := dfTib (⟨n, [], [], t.data.toList, true⟩, true)) ?_ rfl ⟨rfl, HW.out⟩
    exact ret_df rfl (g := w.heap.size) HS.out rfl rfl
  · have hcase : ok = false ∨ ok = true ∧ t.data.toList = [] := by
      cases ok with
      | false => exact Or.inl rfl
      | true =>
        right
        refine ⟨rfl, ?_⟩
        by_cases h : t.data.toList = []
        · exact h
        · exact absurd ⟨rfl, h⟩ hy
    rw [if_neg (by
      intro h
      rw [Bool.and_eq_true] at h
      refine hy ⟨h.1, fun h2 => ?_⟩
      rw [h2] at h
      exact absurd h.2 (by decide))]
    clear hy
    rcases hcase with rfl | ⟨rfl, ht⟩
    · go_enter Tryz.func24, Tryz.ntmps24
      go_wp2_with fail
      refine (c1 _).mono ?_
      rintro e w1 ⟨rfl, b1⟩
      have HB1 := Lib.hid (HB0.out.then b1)
      have hz1 := HZ0.out.below b1
      obtain ⟨k0, k1, k2, k3, k4, kf⟩ := hz1.cells
      have HS := Lib.hid (hz1.set noDfn)
      have HW := Lib.hid (below_set5 HB1.out (Nat.le_refl _) (.string ⟨#[]⟩) (.string ⟨#[]⟩) (.string ⟨#[]⟩) (.string ⟨#[]⟩) (.bool false))
      clear hz1 b1
      go_wp2
      (try simp only [Exit.inBlock, Exit.then])
      refine bodyPost_ret (v := dfTib (noDfn, false)) ?_ rfl ⟨rfl, HW.out⟩
      exact ret_df rfl (g := w.heap.size) HS.out rfl rfl
    · obtain ⟨e1, e2⟩ := emp_yes ht
      clear ht
      go_enter Tryz.func24, Tryz.ntmps24
      go_wp2_with fail
      refine (c1 _).mono ?_
      rintro e w1 ⟨rfl, b1⟩
      have HB1 := Lib.hid (HB0.out.then b1)
      have hz1 := HZ0.out.below b1
      obtain ⟨k0, k1, k2, k3, k4, kf⟩ := hz1.cells
      have HS := Lib.hid (hz1.set noDfn)
      have HW := Lib.hid (below_set5 HB1.out (Nat.le_refl _) (.string ⟨#[]⟩) (.string ⟨#[]⟩) (.string ⟨#[]⟩) (.string ⟨#[]⟩) (.bool false))
      clear hz1 b1
      go_wp2
      (try simp only [Exit.inBlock, Exit.then])
      refine bodyPost_ret (v := dfTib (noDfn, false)) ?_ rfl ⟨rfl, HW.out⟩
      exact ret_df rfl (g := w.heap.size) HS.out rfl rfl

end Go.Proofs.YtioolcnoiaoflaaGreatDoor

namespace Go.Proofs.YtioolcnoiaoflaaGreatDoor
open Go.RowKit
set_option linter.unusedSimpArgs false
set_option linter.unusedVariables false
set_option maxRecDepth 100000

theorem str_len (s : ByteArray) : s.data.toList.length = s.size := by simp
theorem str_back (a : ByteArray) : (⟨a.data.toList.toArray⟩ : ByteArray) = a := Lib.mk_data a
def sbV (x : List UInt8 × Bool) : Value := .tuple #[.string ⟨x.1.toArray⟩, .bool x.2]

set_option maxHeartbeats 8000000 in
theorem lastTitle_any (s : ByteArray) (w : World) (hn : NamedIs w) (hs : s.size ≤ 1099511627776) :
    Calls Tryz.prog 80 #[.string s] w fun e w' => e = .returned (sbV (lastL s.data.toList)) ∧ Below w.heap.size w w' := by
  by_cases h0 : s.data.toList = []
  · obtain ⟨e1, e2⟩ := emp_yes h0
    have HR := Lib.hid (show lastL s.data.toList = ([], true) from by unfold lastL; rw [if_pos h0])
    clear h0
    go_enter Tryz.func80, Tryz.ntmps80
    go_wp2
    go_ret2
    exact ⟨by rw [HR.out]; rfl, Below.refl _ _⟩
  · obtain ⟨e1, e2⟩ := emp_no h0
    have c1 := fun w1 => plain_any s w1 (by omega)
    have hle := trimG_le s.data.toList
    rw [str_len] at hle
    have hq : lastL s.data.toList = if !(titleL (trimG s.data.toList)).2.2 || decide ((titleL (trimG s.data.toList)).2.1 < (trimG s.data.toList).length) || decide ((trimG s.data.toList).length = s.size) then ([], false)
        else ((titleL (trimG s.data.toList)).1, true) := by
      unfold lastL
      rw [if_neg h0, str_len]
    clear h0
    generalize trimG s.data.toList = T at *
    obtain ⟨X, hX, rfl⟩ := text_of' T
    rw [hX] at c1
    have c2 := fun w1 hn => title_any X w1 hn (by rw [str_len] at hle; omega)
    rw [str_len] at hq
    have HN := Lib.hid hn
    have HQ := Lib.hid hq
    generalize titleL X.data.toList = t at *
    obtain ⟨tt, z, k⟩ := t
    unfold tib at c2
    simp only at c2 hq
    clear hle hX hq hn
    by_cases hk : k = true
    · subst hk
      by_cases h1 : z < X.size
      · have n1 : decide ((z : Int) < (X.size : Int)) = true := by simp; omega
        have n2 : (z : Int) < (X.size : Int) := by omega
        have HR := Lib.hid (show lastL s.data.toList = ([], false) from by rw [HQ.out, if_pos (by simp [h1])])
        clear h1
        go_enter Tryz.func80, Tryz.ntmps80
        go_wp2_with fail
        refine (c1 _).mono ?_
        rintro e w1 ⟨rfl, b1⟩
        go_wp2_with fail
        refine (c2 _ (HN.out.below b1)).mono ?_
        rintro e w2 ⟨rfl, b2⟩
        go_wp2
        go_ret2
        exact ⟨by rw [HR.out]; rfl, b1.then b2⟩
      · have n1 : decide ((z : Int) < (X.size : Int)) = false := by simp; omega
        have n2 : ¬ (z : Int) < (X.size : Int) := by omega
        by_cases h2 : X.size = s.size
        · have n3 : ((X.size : Int) == (s.size : Int)) = true := by simp; omega
          have HR := Lib.hid (show lastL s.data.toList = ([], false) from by rw [HQ.out, if_pos (by simp [h2])])
          clear h1 h2
          go_enter Tryz.func80, Tryz.ntmps80
          go_wp2_with fail
          refine (c1 _).mono ?_
          rintro e w1 ⟨rfl, b1⟩
          go_wp2_with fail
          refine (c2 _ (HN.out.below b1)).mono ?_
          rintro e w2 ⟨rfl, b2⟩
          go_wp2
          go_ret2
          exact ⟨by rw [HR.out]; rfl, b1.then b2⟩
        · have n3 : ((X.size : Int) == (s.size : Int)) = false := by simp; omega
          have HR := Lib.hid (show lastL s.data.toList = (tt, true) from by rw [HQ.out, if_neg (by simp [h2]; omega)])
          clear h1 h2
          go_enter Tryz.func80, Tryz.ntmps80
          go_wp2_with fail
          refine (c1 _).mono ?_
          rintro e w1 ⟨rfl, b1⟩
          go_wp2_with fail
          refine (c2 _ (HN.out.below b1)).mono ?_
          rintro e w2 ⟨rfl, b2⟩
          go_wp2
          go_ret2
          exact ⟨by rw [HR.out]; rfl, b1.then b2⟩
    · obtain rfl : k = false := by simpa using hk
      have HR := Lib.hid (show lastL s.data.toList = ([], false) from by rw [HQ.out, if_pos (by simp)])
      clear hk
      go_enter Tryz.func80, Tryz.ntmps80
      go_wp2_with fail
      refine (c1 _).mono ?_
      rintro e w1 ⟨rfl, b1⟩
      go_wp2_with fail
      refine (c2 _ (HN.out.below b1)).mono ?_
      rintro e w2 ⟨rfl, b2⟩
      go_wp2
      go_ret2
      exact ⟨by rw [HR.out]; rfl, b1.then b2⟩

set_option maxHeartbeats 8000000 in
theorem linkOf_any (s t : ByteArray) (w : World) (hn : NamedIs w) (hs : s.size ≤ 17592186044416) (ht : t.size ≤ 1099511627776) :
    Calls Tryz.prog 26 #[.string s, .string t] w fun e w' => e = .returned (dfTib (linkL s.data.toList t.data.toList)) ∧ Below w.heap.size w w' := by
  have b0 : Below w.heap.size w (w.alloc (.cells #[.string ⟨#[]⟩, .string ⟨#[]⟩, .string ⟨#[]⟩, .string ⟨#[]⟩, .bool false] 26)) := (Below.refl _ w).alloc (Nat.le_refl _) _
  have z0 := dfAt_zero w
  have hs0 := alloc_size w (.cells #[.string ⟨#[]⟩, .string ⟨#[]⟩, .string ⟨#[]⟩, .string ⟨#[]⟩, .bool false] 26)
  have c1 := fun w1 => defName_any s w1 hs
  have c2 := fun w1 h => dest_any t w1 h ht
  have hle := destL_le t.data.toList
  rw [str_len] at hle
  unfold linkL
  generalize dnL s.data.toList = d at *
  obtain ⟨n, ok⟩ := d
  generalize destL t.data.toList = u at *
  obtain ⟨url, m, is⟩ := u
  simp only at c1 c2 hle ⊢
  unfold tib at c2
  simp only at c2
  have hsl := slice_lo t m m rfl hle
  have c3 := fun w1 h => lastTitle_any (t.extract m t.size) w1 h (by rw [ByteArray.size_extract]; omega)
  rw [show (t.extract m t.size).data.toList = t.data.toList.drop m from by rw [part_str, List.take_of_length_le (by rw [str_len]; exact Nat.le_refl _)]] at c3
  have HN := Lib.hid (hn.below b0)
  have HB0 := Lib.hid b0
  have HZ0 := Lib.hid z0
  generalize lastL (t.data.toList.drop m) = l at *
  obtain ⟨ttl, on⟩ := l
  unfold sbV at c3
  simp only at c3 ⊢
  generalize t.extract m t.size = X at *
  have HLE := Lib.hid hle
  have hle2 : (m : Int) ≤ (t.size : Int) := by omega
  clear b0 z0 hn hle
  have step : ∀ (y : Dfn × Bool), y = (if ok && is && on then ((⟨n, url, ttl, [], false⟩ : Dfn), true) else (noDfn, false)) → Calls Tryz.prog 26 #[.string s, .string t] w fun e w' => e = .returned (dfTib y) ∧ Below w.heap.size w w' := by
    intro y hy
    cases ok with
    | false =>
      obtain rfl : y = (noDfn, false) := by rw [hy]; rfl
      clear hy
      go_enter Tryz.func26, Tryz.ntmps26
      go_wp2_with fail
      refine (c1 _).mono ?_
      rintro e w1 ⟨rfl, b1⟩
      have HN1 := Lib.hid (HN.out.below b1)
      go_wp2_with fail
      refine (c2 _ HN1.out).mono ?_
      rintro e w2 ⟨rfl, b2⟩
      have HN2 := Lib.hid (HN1.out.below b2)
      go_wp2_with fail
      refine (c3 _ HN2.out).mono ?_
      rintro e w3 ⟨rfl, b3⟩
      have b4 := (b1.then b2).then b3
      have HB1 := Lib.hid (HB0.out.then b4)
      have hz1 := HZ0.out.below b4
      obtain ⟨k0, k1, k2, k3, k4, kf⟩ := hz1.cells
      have HS := Lib.hid (hz1.set noDfn)
      have HW := Lib.hid (below_set5 HB1.out (Nat.le_refl _) (.string ⟨#[]⟩) (.string ⟨#[]⟩) (.string ⟨#[]⟩) (.string ⟨#[]⟩) (.bool false))
      clear hz1 b1 b2 b3 b4
      go_wp2
      (try simp only [Exit.inBlock, Exit.then])
      refine bodyPost_ret (v := dfTib (noDfn, false)) ?_ rfl ⟨rfl, HW.out⟩
      exact ret_df rfl (g := w.heap.size) HS.out rfl rfl
    | true =>
      cases is with
      | false =>
        obtain rfl : y = (noDfn, false) := by rw [hy]; rfl
        clear hy
        go_enter Tryz.func26, Tryz.ntmps26
        go_wp2_with fail
        refine (c1 _).mono ?_
        rintro e w1 ⟨rfl, b1⟩
        have HN1 := Lib.hid (HN.out.below b1)
        go_wp2_with fail
        refine (c2 _ HN1.out).mono ?_
        rintro e w2 ⟨rfl, b2⟩
        have HN2 := Lib.hid (HN1.out.below b2)
        go_wp2_with fail
        refine (c3 _ HN2.out).mono ?_
        rintro e w3 ⟨rfl, b3⟩
        have b4 := (b1.then b2).then b3
        have HB1 := Lib.hid (HB0.out.then b4)
        have hz1 := HZ0.out.below b4
        obtain ⟨k0, k1, k2, k3, k4, kf⟩ := hz1.cells
        have HS := Lib.hid (hz1.set noDfn)
        have HW := Lib.hid (below_set5 HB1.out (Nat.le_refl _) (.string ⟨#[]⟩) (.string ⟨#[]⟩) (.string ⟨#[]⟩) (.string ⟨#[]⟩) (.bool false))
        clear hz1 b1 b2 b3 b4
        go_wp2
        (try simp only [Exit.inBlock, Exit.then])
        refine bodyPost_ret (v := dfTib (noDfn, false)) ?_ rfl ⟨rfl, HW.out⟩
        exact ret_df rfl (g := w.heap.size) HS.out rfl rfl
      | true =>
        cases on with
        | false =>
          obtain rfl : y = (noDfn, false) := by rw [hy]; rfl
          clear hy
          go_enter Tryz.func26, Tryz.ntmps26
          go_wp2_with fail
          refine (c1 _).mono ?_
          rintro e w1 ⟨rfl, b1⟩
          have HN1 := Lib.hid (HN.out.below b1)
          go_wp2_with fail
          refine (c2 _ HN1.out).mono ?_
          rintro e w2 ⟨rfl, b2⟩
          have HN2 := Lib.hid (HN1.out.below b2)
          go_wp2_with fail
          refine (c3 _ HN2.out).mono ?_
          rintro e w3 ⟨rfl, b3⟩
          have b4 := (b1.then b2).then b3
          have HB1 := Lib.hid (HB0.out.then b4)
          have hz1 := HZ0.out.below b4
          obtain ⟨k0, k1, k2, k3, k4, kf⟩ := hz1.cells
          have HS := Lib.hid (hz1.set noDfn)
          have HW := Lib.hid (below_set5 HB1.out (Nat.le_refl _) (.string ⟨#[]⟩) (.string ⟨#[]⟩) (.string ⟨#[]⟩) (.string ⟨#[]⟩) (.bool false))
          clear hz1 b1 b2 b3 b4
          go_wp2
          (try simp only [Exit.inBlock, Exit.then])
          refine bodyPost_ret (v := dfTib (noDfn, false)) ?_ rfl ⟨rfl, HW.out⟩
          exact ret_df rfl (g := w.heap.size) HS.out rfl rfl
        | true =>
          obtain rfl : y = (⟨n, url, ttl, [], false⟩, true) := by rw [hy]; rfl
          clear hy
          go_enter Tryz.func26, Tryz.ntmps26
          go_wp2_with fail
          refine (c1 _).mono ?_
          rintro e w1 ⟨rfl, b1⟩
          have HN1 := Lib.hid (HN.out.below b1)
          go_wp2_with fail
          refine (c2 _ HN1.out).mono ?_
          rintro e w2 ⟨rfl, b2⟩
          have HN2 := Lib.hid (HN1.out.below b2)
          go_wp2_with fail
          refine (c3 _ HN2.out).mono ?_
          rintro e w3 ⟨rfl, b3⟩
          have b4 := (b1.then b2).then b3
          have HB1 := Lib.hid (HB0.out.then b4)
          have hz1 := HZ0.out.below b4
          obtain ⟨k0, k1, k2, k3, k4, kf⟩ := hz1.cells
          have HS := Lib.hid (hz1.set ⟨n, url, ttl, [], false⟩)
          have HW := Lib.hid (below_set5 HB1.out (Nat.le_refl _) (.string ⟨n.toArray⟩) (.string ⟨url.toArray⟩) (.string ⟨ttl.toArray⟩) (.string ⟨#[]⟩) (.bool false))
          clear hz1 b1 b2 b3 b4
          go_wp2
          (try simp only [Exit.inBlock, Exit.then])
          refine bodyPost_ret (v := dfTib (⟨n, url, ttl, [], false⟩, true)) ?_ rfl ⟨rfl, HW.out⟩
          exact ret_df rfl (g := w.heap.size) HS.out rfl rfl
  exact step _ rfl

end Go.Proofs.YtioolcnoiaoflaaGreatDoor

namespace Go.Proofs.YtioolcnoiaoflaaGreatDoor
open Go.RowKit
set_option linter.unusedSimpArgs false
set_option linter.unusedVariables false
set_option maxRecDepth 100000

theorem libcut_le (l sep : List UInt8) : (Lib.cut l sep).1.length ≤ l.length ∧ (Lib.cut l sep).2.1.length ≤ l.length := by
  unfold Lib.cut
  split
  · constructor
    · rw [List.length_take]; exact Nat.min_le_right _ _
    · rw [List.length_drop]; exact Nat.sub_le _ _
  · exact ⟨Nat.le_refl _, by simp⟩
theorem cutD_any (s : ByteArray) (w : World) (hs : s.size < 4294967281) (hm : MaxL w) :
    Calls Tryz.prog 23 #[.string s, .string ⟨#[93, 58]⟩] w fun e w' =>
      e = .returned (.tuple #[.string ⟨(Lib.cut s.data.toList sepD).1.toArray⟩, .string ⟨(Lib.cut s.data.toList sepD).2.1.toArray⟩, .bool (Lib.cut s.data.toList sepD).2.2]) ∧ Below w.heap.size w w' := by
  obtain ⟨m, hm⟩ := hm
  refine (Tryz.strings_Cut s ⟨#[93, 58]⟩ m w hs hm).mono ?_
  rintro e w' ⟨rfl, n, rfl⟩
  exact ⟨rfl, below_drewN' (Below.refl _ _) n⟩
theorem hasP1 (l : List UInt8) (b : UInt8) : Lib.trimPrefix l [b] = if Lib.hasPrefix l [b] then l.drop 1 else l := by
  unfold Lib.trimPrefix
  rfl

set_option maxHeartbeats 8000000 in
theorem dline_prog (s : ByteArray) (w : World) (hv : Elv w) (hs : s.size ≤ 1000000000) :
    Calls Tryz.prog 8 #[.string s] w fun e w' => e = .returned (dfTib (progL s.data.toList)) ∧ Below w.heap.size w w' := by
  have b0 : Below w.heap.size w (w.alloc (.cells #[.string ⟨#[]⟩, .string ⟨#[]⟩, .string ⟨#[]⟩, .string ⟨#[]⟩, .bool false] 26)) := (Below.refl _ w).alloc (Nat.le_refl _) _
  have z0 := dfAt_zero w
  have hs0 := alloc_size w (.cells #[.string ⟨#[]⟩, .string ⟨#[]⟩, .string ⟨#[]⟩, .string ⟨#[]⟩, .bool false] 26)
  have HV := Lib.hid (hv.below b0)
  have HB0 := Lib.hid b0
  have HZ0 := Lib.hid z0
  have p1 := fun w1 => Tryz.strings_CutPrefix s ⟨#[91]⟩ w1
  rw [show (⟨#[91]⟩ : ByteArray).data.toList = [91] from rfl, hasP1] at p1
  clear b0 z0 hv
  cases h1 : Lib.hasPrefix s.data.toList [91] with
  | false =>
    rw [h1] at p1
    rw [if_neg (by simp)] at p1
    have HR := Lib.hid (show progL s.data.toList = (noDfn, false) from by unfold progL; rw [if_neg (by rw [h1]; simp)])
    have P1 := Lib.hid p1
    clear p1 h1
    go_enter Tryz.func8, Tryz.ntmps8
    go_wp2_with fail
    refine (P1.out _).mono ?_
    rintro e w1 ⟨rfl, rfl⟩
    go_wp2
    (try simp only [Exit.inBlock, Exit.then])
    refine bodyPost_ret (v := dfTib (noDfn, false)) ?_ rfl ⟨by rw [HR.out], HB0.out⟩
    exact ret_df rfl (g := w.heap.size) HZ0.out rfl rfl
  | true =>
    rw [h1] at p1
    rw [if_pos rfl] at p1
    have hin : (s.data.toList.drop 1).length ≤ 1000000000 := by rw [List.length_drop, str_len]; omega
    have hq : progL s.data.toList = if (Lib.cut (s.data.toList.drop 1) sepD).2.2 then behindL (Lib.cut (s.data.toList.drop 1) sepD).1 (Lib.cut (s.data.toList.drop 1) sepD).2.1 else (noDfn, false) := by
      unfold progL; rw [if_pos h1]
    have P1 := Lib.hid p1
    clear p1 h1
    generalize s.data.toList.drop 1 = i at *
    have c2 := fun w1 hm => cutD_any ⟨i.toArray⟩ w1 (by rw [str_size]; omega) hm
    rw [show (⟨i.toArray⟩ : ByteArray).data.toList = i from rfl] at c2
    have hle := libcut_le i sepD
    generalize Lib.cut i sepD = c at *
    obtain ⟨name, rest, ok⟩ := c
    simp only at c2 hq hle
    obtain ⟨hl1, hl2⟩ := hle
    have HQ := Lib.hid hq
    have C2 := Lib.hid c2
    clear hq c2
    cases ok with
    | false =>
      go_enter Tryz.func8, Tryz.ntmps8
      go_wp2_with fail
      refine (P1.out _).mono ?_
      rintro e w1 ⟨rfl, rfl⟩
      go_wp2_with fail
      refine (C2.out _ HV.out.ml).mono ?_
      rintro e w2 ⟨rfl, b2⟩
      have HB1 := Lib.hid (HB0.out.then b2)
      have hz1 := HZ0.out.below b2
      obtain ⟨k0, k1, k2, k3, k4, kf⟩ := hz1.cells
      have HS := Lib.hid (hz1.set noDfn)
      have HW := Lib.hid (below_set5 HB1.out (Nat.le_refl _) (.string ⟨#[]⟩) (.string ⟨#[]⟩) (.string ⟨#[]⟩) (.string ⟨#[]⟩) (.bool false))
      clear hz1
      go_wp2
      (try simp only [Exit.inBlock, Exit.then])
      refine bodyPost_ret (v := dfTib (noDfn, false)) ?_ rfl ⟨by rw [HQ.out]; rfl, HW.out⟩
      exact ret_df rfl (g := w.heap.size) HS.out rfl rfl
    | true =>
      have p3 := fun w1 => Tryz.strings_CutPrefix ⟨name.toArray⟩ ⟨#[94]⟩ w1
      rw [show (⟨#[94]⟩ : ByteArray).data.toList = [94] from rfl, hasP1, show (⟨name.toArray⟩ : ByteArray).data.toList = name from rfl] at p3
      have c4 := fun w1 => plain_any ⟨rest.toArray⟩ w1 (by rw [str_size]; omega)
      rw [show (⟨rest.toArray⟩ : ByteArray).data.toList = rest from rfl] at c4
      have hlt := trimG_le rest
      cases h3 : Lib.hasPrefix name [94] with
      | true =>
        rw [h3] at p3
        rw [if_pos rfl] at p3
        have hln : (name.drop 1).length ≤ 1000000000 := by rw [List.length_drop]; omega
        have HR := Lib.hid (show progL s.data.toList = noteL (name.drop 1) (trimG rest) from by rw [HQ.out, if_pos rfl]; unfold behindL; rw [if_pos h3])
        clear HQ h3
        generalize name.drop 1 = nm at *
        generalize trimG rest = t at *
        have c5 := fun w1 => noteOf_any ⟨nm.toArray⟩ ⟨t.toArray⟩ w1 (by rw [str_size]; omega)
        rw [show (⟨nm.toArray⟩ : ByteArray).data.toList = nm from rfl, show (⟨t.toArray⟩ : ByteArray).data.toList = t from rfl] at c5
        generalize noteL nm t = y at *
        obtain ⟨y1, y2⟩ := y
        unfold dfTib dfV at c5
        simp only at c5
        have P3 := Lib.hid p3
        have C4 := Lib.hid c4
        have C5 := Lib.hid c5
        clear p3 c4 c5
        go_enter Tryz.func8, Tryz.ntmps8
        go_wp2_with fail
        refine (P1.out _).mono ?_
        rintro e w1 ⟨rfl, rfl⟩
        go_wp2_with fail
        refine (C2.out _ HV.out.ml).mono ?_
        rintro e w2 ⟨rfl, b2⟩
        go_wp2_with fail
        refine (P3.out _).mono ?_
        rintro e w3 ⟨rfl, rfl⟩
        go_wp2_with fail
        refine (C4.out _).mono ?_
        rintro e w4 ⟨rfl, b4⟩
        go_wp2_with fail
        refine (C5.out _).mono ?_
        rintro e w5 ⟨rfl, b5⟩
        have b6 := (b2.then b4).then b5
        have HB1 := Lib.hid (HB0.out.then b6)
        have hz1 := HZ0.out.below b6
        obtain ⟨k0, k1, k2, k3, k4, kf⟩ := hz1.cells
        have HS := Lib.hid (hz1.set y1)
        have HW := Lib.hid (below_set5 HB1.out (Nat.le_refl _) (.string ⟨y1.nm.toArray⟩) (.string ⟨y1.url.toArray⟩) (.string ⟨y1.ttl.toArray⟩) (.string ⟨y1.txt.toArray⟩) (.bool y1.nt))
        clear hz1 b2 b4 b5 b6
        go_wp2
        (try simp only [Exit.inBlock, Exit.then])
        refine bodyPost_ret (v := dfTib (y1, y2)) ?_ rfl ⟨by rw [HR.out], HW.out⟩
        exact ret_df rfl (g := w.heap.size) HS.out rfl rfl
      | false =>
        rw [h3] at p3
        rw [if_neg (by simp)] at p3
        have HR := Lib.hid (show progL s.data.toList = linkL name (trimG rest) from by rw [HQ.out, if_pos rfl]; unfold behindL; rw [if_neg (by rw [h3]; simp)])
        clear HQ h3
        generalize trimG rest = t at *
        have c5 := fun w1 h => linkOf_any ⟨name.toArray⟩ ⟨t.toArray⟩ w1 h (by rw [str_size]; omega) (by rw [str_size]; omega)
        rw [show (⟨name.toArray⟩ : ByteArray).data.toList = name from rfl, show (⟨t.toArray⟩ : ByteArray).data.toList = t from rfl] at c5
        generalize linkL name t = y at *
        obtain ⟨y1, y2⟩ := y
        unfold dfTib dfV at c5
        simp only at c5
        have P3 := Lib.hid p3
        have C4 := Lib.hid c4
        have C5 := Lib.hid c5
        clear p3 c4 c5
        go_enter Tryz.func8, Tryz.ntmps8
        go_wp2_with fail
        refine (P1.out _).mono ?_
        rintro e w1 ⟨rfl, rfl⟩
        go_wp2_with fail
        refine (C2.out _ HV.out.ml).mono ?_
        rintro e w2 ⟨rfl, b2⟩
        go_wp2_with fail
        refine (P3.out _).mono ?_
        rintro e w3 ⟨rfl, rfl⟩
        go_wp2_with fail
        refine (C4.out _).mono ?_
        rintro e w4 ⟨rfl, b4⟩
        have HV2 := Lib.hid ((HV.out.below b2).below b4)
        go_wp2_with fail
        refine (C5.out _ HV2.out.nm).mono ?_
        rintro e w5 ⟨rfl, b5⟩
        have b6 := (b2.then b4).then b5
        have HB1 := Lib.hid (HB0.out.then b6)
        have hz1 := HZ0.out.below b6
        obtain ⟨k0, k1, k2, k3, k4, kf⟩ := hz1.cells
        have HS := Lib.hid (hz1.set y1)
        have HW := Lib.hid (below_set5 HB1.out (Nat.le_refl _) (.string ⟨y1.nm.toArray⟩) (.string ⟨y1.url.toArray⟩) (.string ⟨y1.ttl.toArray⟩) (.string ⟨y1.txt.toArray⟩) (.bool y1.nt))
        clear hz1 b2 b4 b5 b6
        go_wp2
        (try simp only [Exit.inBlock, Exit.then])
        refine bodyPost_ret (v := dfTib (y1, y2)) ?_ rfl ⟨by rw [HR.out], HW.out⟩
        exact ret_df rfl (g := w.heap.size) HS.out rfl rfl
/-- A line's definition. -/
theorem dline_any (s : ByteArray) (w : World) (hv : Elv w) (hs : s.size ≤ 1000000000) :
    Calls Tryz.prog 8 #[.string s] w fun e w' => e = .returned (dfTib (dlL s.data.toList)) ∧ Below w.heap.size w w' := by
  rw [← progL_is]
  exact dline_prog s w hv hs

end Go.Proofs.YtioolcnoiaoflaaGreatDoor

namespace Go.Proofs.YtioolcnoiaoflaaGreatDoor
open Go.RowKit
set_option linter.unusedSimpArgs false
set_option linter.unusedVariables false
set_option maxRecDepth 100000

theorem index_lf : ∀ l : List UInt8, Lib.index l [10] = if (l.takeWhile (· != 10)).length = l.length then -1 else ((l.takeWhile (· != 10)).length : Int)
  | [] => rfl
  | b :: t => by
    unfold Lib.index
    have e : List.isPrefixOf [10] (b :: t) = ((10 : UInt8) == b) := by simp [List.isPrefixOf]
    rw [e]
    by_cases h : b = 10
    · subst h
      simp
    · have h2 : ((10 : UInt8) == b) = false := by rw [beq_eq_false_iff_ne]; exact fun e => h e.symm
      have e3 : (b :: t).takeWhile (· != 10) = b :: t.takeWhile (· != 10) := by rw [List.takeWhile_cons, if_pos (by simpa using h)]
      rw [h2, if_neg (by simp), index_lf t, e3]
      generalize t.takeWhile (· != 10) = x
      by_cases h3 : x.length = t.length
      · rw [if_pos h3, if_pos (show (b :: x).length = (b :: t).length by simp [h3]), if_pos (by rfl)]
      · rw [if_neg h3, if_neg (show ¬ (b :: x).length = (b :: t).length by simp [h3])]
        have : (((x.length : Nat) : Int) == -1) = false := by rw [beq_eq_false_iff_ne]; omega
        rw [if_neg (by rw [this]; simp)]
        simp
theorem cut_lf (l : List UInt8) : (Lib.cut l [10]).1 = l.takeWhile (· != 10) ∧ (Lib.cut l [10]).2.1 = (l.dropWhile (· != 10)).drop 1 := by
  have hs := List.takeWhile_append_dropWhile (p := fun b : UInt8 => b != 10) (l := l)
  unfold Lib.cut
  rw [index_lf]
  generalize l.takeWhile (· != 10) = a at *
  generalize l.dropWhile (· != 10) = d at *
  subst hs
  by_cases h : a.length = (a ++ d).length
  · have h3 : d = [] := List.eq_nil_of_length_eq_zero (by rw [List.length_append] at h; omega)
    subst h3
    rw [if_pos h, if_neg (by decide), List.append_nil]
    exact ⟨rfl, rfl⟩
  · rw [if_neg h, if_pos (Int.natCast_nonneg _), Int.toNat_natCast]
    constructor
    · exact List.take_left
    · show (a ++ d).drop (a.length + 1) = _
      rw [← List.drop_drop, List.drop_left]
theorem cutLf_any (s : ByteArray) (w : World) (hs : s.size < 4294967281) (hm : MaxL w) :
    Calls Tryz.prog 23 #[.string s, .string ⟨#[10]⟩] w fun e w' =>
      ∃ ok : Bool, e = .returned (.tuple #[.string ⟨(s.data.toList.takeWhile (· != 10)).toArray⟩, .string ⟨((s.data.toList.dropWhile (· != 10)).drop 1).toArray⟩, .bool ok]) ∧ Below w.heap.size w w' := by
  obtain ⟨m, hm⟩ := hm
  refine (Tryz.strings_Cut s ⟨#[10]⟩ m w hs hm).mono ?_
  rintro e w' ⟨rfl, n, rfl⟩
  rw [show (⟨#[10]⟩ : ByteArray).data.toList = [10] from rfl, (cut_lf _).1, (cut_lf _).2]
  exact ⟨_, rfl, below_drewN' (Below.refl _ _) n⟩
def strLen : Value → Nat
  | .string s => s.size
  | _ => 0

def TakeRel (s : ByteArray) (w : World) (z t : Value) (wr : World) : Prop :=
  ∃ (m : ByteArray) (D : List Dfn), z = .string m ∧ wr.ownsRow w.heap.size 26 5 t D.length (flt dfC D) ∧ Below w.heap.size w wr ∧ D.length + m.size ≤ s.size ∧ dtL s.data.toList = (D ++ (dtL m.data.toList).1, (dtL m.data.toList).2)

set_option maxHeartbeats 8000000 in
theorem dtake_any (s : ByteArray) (w : World) (hv : Elv w) (hs : s.size ≤ 1000000000) :
    Calls Tryz.prog 10 #[.string s] w fun e w' => ∃ v, e = .returned (.tuple #[v, .string ⟨(dtL s.data.toList).2.toArray⟩]) ∧ w'.ownsRow w.heap.size 26 5 v (dtL s.data.toList).1.length (flt dfC (dtL s.data.toList).1) ∧ Below w.heap.size w w' := by
  obtain ⟨i0, hi0, hz0, hz1, hz2⟩ := info_parts infoDef
  have HV := Lib.hid hv
  clear hv
  go_enter Tryz.func10, Tryz.ntmps10
  go_wp2_with fail
  go_loopw [0, 4] (fun z t wr => TakeRel s w z t wr) (fun z _ _ => strLen z)
  case atStart => exact ⟨s, [], rfl, World.ownsRow_nil _ _ _ _, Below.refl _ _, by simp, by simp⟩
  case round =>
    obtain ⟨m, D, rfl, hown, hbw, hlen, hdt⟩ := hrel
    have hsz := hbw.size
    have hv := HV.out.below hbw
    have c1 := cutLf_any m wr (by omega) hv.ml
    have hl1 : (m.data.toList.takeWhile (· != 10)).length ≤ m.size := by rw [← str_len m]; exact (List.takeWhile_sublist _).length_le
    have hl2 : ((m.data.toList.dropWhile (· != 10)).drop 1).length ≤ m.size - 1 := by
      rw [List.length_drop, ← str_len m]
      exact Nat.sub_le_sub_right (List.dropWhile_sublist _).length_le 1
    have hst := dtL_step m.data.toList
    have hme : m.data.toList = [] → (dlL (m.data.toList.takeWhile (· != 10))).2 = false := by intro h; rw [h]; rfl
    have c2 := fun w1 h => dline_any ⟨(m.data.toList.takeWhile (· != 10)).toArray⟩ w1 h (by rw [str_size]; omega)
    rw [show (⟨(m.data.toList.takeWhile (· != 10)).toArray⟩ : ByteArray).data.toList = m.data.toList.takeWhile (· != 10) from rfl] at c2
    have hm0 : m.data.toList = [] ∨ 0 < m.size := by
      by_cases h : 0 < m.size
      · exact Or.inr h
      · left; exact List.eq_nil_of_length_eq_zero (by rw [str_len]; omega)
    generalize m.data.toList.takeWhile (· != 10) = L at *
    generalize (m.data.toList.dropWhile (· != 10)).drop 1 = R at *
    generalize dlL L = y at *
    obtain ⟨x, ok⟩ := y
    simp only at hst hme c2
    unfold dfTib dfV at c2
    simp only at c2
    cases ok with
    | true =>
      rw [if_pos rfl] at hst
      have hm1 : 0 < m.size := by
        rcases hm0 with h | h
        · exact absurd (hme h) (by simp)
        · exact h
      have HM := Lib.hid (show D.length + 1 + R.length ≤ s.size from by omega)
      have HT := Lib.hid (show dtL s.data.toList = ((D ++ [x]) ++ (dtL R).1, (dtL R).2) from by rw [hdt, hst]; simp)
      have HL := Lib.hid hl2
      have HV1 := Lib.hid hv
      have HU : flt dfC (D ++ [x]) = flt dfC D ++ dfC x := by rw [flt_append, flt_one]
      replace HU := Lib.hid HU
      clear hdt hst hme hm0 hl2 hv
      go_wp2_with fail
      refine c1.mono ?_
      rintro e w1 ⟨q, rfl, b1⟩
      go_wp2_with fail
      refine (c2 _ (HV1.out.below b1)).mono ?_
      rintro e w2 ⟨rfl, b2⟩
      have b3 := b1.then b2
      have hown2 := ownsRow_below hown b3
      have hs2 := b3.size
      have hz9 := alloc_size w2 (.cells #[.string ⟨x.nm.toArray⟩, .string ⟨x.url.toArray⟩, .string ⟨x.ttl.toArray⟩, .string ⟨x.txt.toArray⟩, .bool x.nt] 26)
      have hnw := elt_cells (w2.alloc (.cells #[.string ⟨x.nm.toArray⟩, .string ⟨x.url.toArray⟩, .string ⟨x.ttl.toArray⟩, .string ⟨x.txt.toArray⟩, .bool x.nt] 26)) (dfC x) 26
      rw [hz9] at hnw
      have HZ9 := Lib.hid hz9
      clear hz9
      go_wp2_with (at_builtin; refine wpList_append_own _ rfl _ _ 40 rfl w.heap.size 26 i0 (.agg #[.string ByteArray.empty, .string ByteArray.empty, .string ByteArray.empty, .string ByteArray.empty, .bool false]) 5 72 Tryz.underlying40 hi0 hz0 hz1 hz2 rfl (by decide) _ _ _ rfl ((hown2.alloc _).alloc _) ⟨w2.heap.size + 1, 0, none⟩ 1 1 (dfC x) rfl rfl hnw (dfC_one _) (by unfold maxLen; omega) (by omega) (by simp; omega) ?_)
      intro v' w3 hown' hgrow _
      have hbw3 := (((hbw.trans (b3.mono hsz)).alloc (by omega) _).alloc (by rw [HZ9.out]; omega) _).grown hgrow (by simp; omega) (fun k hk => (hown2.lt k hk).1)
      rw [← HU.out] at hown'
      have HO := Lib.hid hown'
      have HB := Lib.hid hbw3
      clear hown' hgrow hbw3
      go_wp2
      go_roundw
      case rel => exact ⟨⟨R.toArray⟩, D ++ [x], rfl, by rw [List.length_append]; exact HO.out, HB.out, by rw [str_size, List.length_append]; exact HM.out, HT.out⟩
      case measure => have := HL.out; simp only [strLen, str_size]; omega
    | false =>
      rw [if_neg (by simp)] at hst
      have HT := Lib.hid (show dtL s.data.toList = (D, m.data.toList) from by rw [hdt, hst]; simp)
      have HV1 := Lib.hid hv
      clear hdt hst hme hm0 hl2 hv
      go_wp2_with fail
      refine c1.mono ?_
      rintro e w1 ⟨q, rfl, b1⟩
      go_wp2_with fail
      refine (c2 _ (HV1.out.below b1)).mono ?_
      rintro e w2 ⟨rfl, b2⟩
      have b3 := b1.then b2
      have hown2 := ownsRow_below hown b3
      have HB := Lib.hid (hbw.trans (b3.mono hsz))
      have HO := Lib.hid hown2
      clear hown hown2 hbw
      go_wp2
      go_ret2
      refine ⟨_, ?_, by rw [HT.out]; exact HO.out.alloc _, HB.out.alloc (Nat.le_trans hsz b3.size) _⟩
      rw [HT.out]
      exact by rw [Lib.mk_data]; rfl

end Go.Proofs.YtioolcnoiaoflaaGreatDoor
