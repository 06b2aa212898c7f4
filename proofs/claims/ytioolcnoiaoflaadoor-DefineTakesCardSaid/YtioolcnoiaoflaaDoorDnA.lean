/-
  Package define: Name, noteOf, lastTitle, linkOf: what each answers, in plain words.
-/
import Derived.Test.YtioolcnoiaoflaaDoorDefS
import Derived.Test.YtioolcnoiaoflaaDoorBlkT
import Derived.Test.YtioolcnoiaoflaaDoorTgtG
import Derived.Test.YtioolcnoiaoflaaDoorRepairF
import Derived.Laws.ResultCell
namespace Go.Proofs.YtioolcnoiaoflaaDoor
open Go.RowKit
set_option linter.unusedSimpArgs false
set_option linter.unusedVariables false
set_option maxRecDepth 100000

theorem emp_yes {X : ByteArray} (h : X.data.toList = []) : X.toList.isEmpty = true ∧ (X.toList == []) = true := by
  rw [ByteArray.toList_eq, h]; exact ⟨rfl, rfl⟩
theorem emp_no {X : ByteArray} (h : ¬ X.data.toList = []) : X.toList.isEmpty = false ∧ (X.toList == []) = false := by
  rw [ByteArray.toList_eq]
  cases hx : X.data.toList with
  | nil => exact absurd hx h
  | cons b l => exact ⟨rfl, rfl⟩

/-! ### Name -/
def NmRel (s : ByteArray) (w : World) (I : Nat) (z : Value) (wr : World) : Prop :=
  ∃ k : Nat, z = .string ⟨#[]⟩ ∧ k ≤ s.size ∧ wr.heap[I]? = some (.stringIter s k) ∧ Below w.heap.size w wr ∧ badN (s.data.toList.drop k) = badN s.data.toList
theorem badN_cons (b : UInt8) (l : List UInt8) : badN (b :: l) = (b == 91 || b == 93 || b == 10 || b == 0 || badN l) := rfl
theorem badN_high : ∀ (m l : List UInt8), (∀ b ∈ m, 128 ≤ b.toNat) → badN (m ++ l) = badN l
  | [], _, _ => rfl
  | b :: m, l, h => by
    have hb := h b (by simp)
    rw [List.cons_append, badN_cons, badN_high m l (fun x hx => h x (by simp [hx]))]
    have h1 : (b == 91) = false := by rw [beq_eq_false_iff_ne]; rintro rfl; exact absurd hb (by decide)
    have h2 : (b == 93) = false := by rw [beq_eq_false_iff_ne]; rintro rfl; exact absurd hb (by decide)
    have h3 : (b == 10) = false := by rw [beq_eq_false_iff_ne]; rintro rfl; exact absurd hb (by decide)
    have h4 : (b == 0) = false := by rw [beq_eq_false_iff_ne]; rintro rfl; exact absurd hb (by decide)
    rw [h1, h2, h3, h4]
    rfl
/-- A rune goes by that is none of the four. -/
theorem badN_rune (s : ByteArray) (k : Nat) (h : k < s.size) (hb : (s[k] == 91 || s[k] == 93 || s[k] == 10 || s[k] == 0) = false) : badN (s.data.toList.drop k) = badN (s.data.toList.drop (k + (Utf8.decode s k).2)) := by
  have h2 := decode_tail s k h
  have h1 := (decode_step s k h)
  obtain ⟨j, hj⟩ : ∃ j, (Utf8.decode s k).2 = j + 1 := ⟨(Utf8.decode s k).2 - 1, by omega⟩
  rw [hj] at h2 ⊢
  have hl : s.data.toList.length = s.size := by simp
  rw [get_list s k h, badN_cons, hb, Bool.false_or]
  have e : s.data.toList.drop (k + 1) = (s.data.toList.drop (k + 1)).take j ++ s.data.toList.drop (k + (j + 1)) := by
    have e3 : s.data.toList.drop (k + (j + 1)) = (s.data.toList.drop (k + 1)).drop j := by rw [List.drop_drop]; congr 1; omega
    rw [e3, List.take_append_drop]
  rw [e]
  refine badN_high _ _ ?_
  intro b hb2
  obtain ⟨i, hi, rfl⟩ := List.mem_iff_getElem.1 hb2
  rw [List.length_take, List.length_drop] at hi
  have h3 := h2.2 (i + 1) (by omega) (by omega)
  rw [get!_list s (k + (i + 1)) (by omega)] at h3
  rw [List.getElem_take, List.getElem_drop]
  have e2 : k + 1 + i = k + (i + 1) := by omega
  simp only [e2]
  exact h3

set_option maxHeartbeats 8000000 in
theorem defName_any (s : ByteArray) (w : World) (hs : s.size ≤ 17592186044416) :
    Calls Tryd.prog 8 #[.string s] w fun e w' => e = .returned (.tuple #[.string ⟨(dnL s.data.toList).1.toArray⟩, .bool (dnL s.data.toList).2]) ∧ Below w.heap.size w w' := by
  have cf := fun w1 => fold_any s w1 hs
  rw [foldB_segs] at cf
  have CF := Lib.hid cf
  clear cf
  go_enter Tryd.func8, Tryd.ntmps8
  go_wp2_with fail
  go_loopw [2] (fun z wr => NmRel s w w.heap.size z wr) (fun _ wr => s.size - wr.iterPos w.heap.size)
  case atStart => exact ⟨0, rfl, Nat.zero_le _, World.iter_heap w s 0, (Below.refl _ w).alloc (Nat.le_refl _) _, by simp⟩
  case round =>
    obtain ⟨k, rfl, hk, hit, hbw, hsz⟩ := hrel
    by_cases hp : k < s.size
    · have hnx : ∀ ty, (Instr.next (.pointer (some ⟨w.heap.size, 0, none⟩)) true ty).run Tryd.prog wr = _ := fun ty => Lib.run_next_any_at wr w.heap.size s k ty hit hp
      have hit2 := Lib.iterAt_heap wr w.heap.size s k (k + (Utf8.decode s k).2) hit
      have hbw2 := Lib.below_iterAt hbw (k := w.heap.size) (by omega) s (k + (Utf8.decode s k).2)
      have Hit := Lib.hid hit
      have hdt := (decode_tail s k hp).1
      have hds := decode_step s k hp
      have q91 := rune_is s k hp 91 (by decide)
      have q93 := rune_is s k hp 93 (by decide)
      have q10 := rune_is s k hp 10 (by decide)
      have q0 := rune_is s k hp 0 (by decide)
      clear hit hbw
      cases hg : (s[k] == 91 || s[k] == 93 || s[k] == 10 || s[k] == 0) with
      | true =>
        have HB := Lib.hid (show badN s.data.toList = true from by rw [← hsz, get_list s k hp, badN_cons, hg]; rfl)
        have hor : s[k] = 91 ∨ s[k] = 93 ∨ s[k] = 10 ∨ s[k] = 0 := by simpa [or_assoc] using hg
        have HR := Lib.hid (show dnL s.data.toList = ([], false) from by unfold dnL; rw [if_pos (by rw [HB.out]; simp)])
        clear hsz hg hdt hds HB
        rcases hor with h | h | h | h
        · have n1 : ((Utf8.decode s k).1 : Int) == 91 := by have := q91.2 h; simp at this ⊢; omega
          rw [h] at *
          have hn1 : (((Utf8.decode s k).1 : Int) == 91) = true := n1
          clear q91 q93 q10 q0 h n1
          go_wp2
          go_ret2
          exact ⟨by rw [HR.out]; rfl, hbw2⟩
        · have n0 : (((Utf8.decode s k).1 : Int) == 91) = false := by have := q93.2 h; simp at this ⊢; omega
          have n1 : (((Utf8.decode s k).1 : Int) == 93) = true := by have := q93.2 h; simp at this ⊢; omega
          clear q91 q93 q10 q0 h
          go_wp2
          go_ret2
          exact ⟨by rw [HR.out]; rfl, hbw2⟩
        · have n0 : (((Utf8.decode s k).1 : Int) == 91) = false := by have := q10.2 h; simp at this ⊢; omega
          have n1 : (((Utf8.decode s k).1 : Int) == 93) = false := by have := q10.2 h; simp at this ⊢; omega
          have n2 : (((Utf8.decode s k).1 : Int) == 10) = true := by have := q10.2 h; simp at this ⊢; omega
          clear q91 q93 q10 q0 h
          go_wp2
          go_ret2
          exact ⟨by rw [HR.out]; rfl, hbw2⟩
        · have n0 : (((Utf8.decode s k).1 : Int) == 91) = false := by have := q0.2 h; simp at this ⊢; omega
          have n1 : (((Utf8.decode s k).1 : Int) == 93) = false := by have := q0.2 h; simp at this ⊢; omega
          have n2 : (((Utf8.decode s k).1 : Int) == 10) = false := by have := q0.2 h; simp at this ⊢; omega
          have n3 : (((Utf8.decode s k).1 : Int) == 0) = true := by have := q0.2 h; simp at this ⊢; omega
          clear q91 q93 q10 q0 h
          go_wp2
          go_ret2
          exact ⟨by rw [HR.out]; rfl, hbw2⟩
      | false =>
        have HS := Lib.hid (show badN (s.data.toList.drop (k + (Utf8.decode s k).2)) = badN s.data.toList from by rw [← badN_rune s k hp hg, hsz])
        have hg2 : ¬ s[k] = 91 ∧ ¬ s[k] = 93 ∧ ¬ s[k] = 10 ∧ ¬ s[k] = 0 := by
          simp only [Bool.or_eq_false_iff, beq_eq_false_iff_ne, ne_eq] at hg
          exact ⟨hg.1.1.1, hg.1.1.2, hg.1.2, hg.2⟩
        have n0 : (((Utf8.decode s k).1 : Int) == 91) = false := by have := mt q91.1 hg2.1; simp at this ⊢; omega
        have n1 : (((Utf8.decode s k).1 : Int) == 93) = false := by have := mt q93.1 hg2.2.1; simp at this ⊢; omega
        have n2 : (((Utf8.decode s k).1 : Int) == 10) = false := by have := mt q10.1 hg2.2.2.1; simp at this ⊢; omega
        have n3 : (((Utf8.decode s k).1 : Int) == 0) = false := by have := mt q0.1 hg2.2.2.2; simp at this ⊢; omega
        have HD := Lib.hid (And.intro hdt hds)
        clear hsz hg hg2 q91 q93 q10 q0 hdt hds
        go_wp2
        go_roundw
        case rel => exact ⟨k + (Utf8.decode s k).2, rfl, HD.out.1, hit2, hbw2, HS.out⟩
        case measure => have := HD.out; simp only [World.iterPos, hit2, Hit.out]; omega
    · have hnx : ∀ ty, (Instr.next (.pointer (some ⟨w.heap.size, 0, none⟩)) true ty).run Tryd.prog wr = _ := fun ty => Lib.run_next_end_at wr w.heap.size s k ty hit hp
      have e : s.data.toList.drop k = [] := List.drop_eq_nil_of_le (by simp; omega)
      rw [e] at hsz
      have hbad : badN s.data.toList = false := hsz.symm
      have HD := Lib.hid (show dnL s.data.toList = if (foldL s.data.toList).isEmpty || decide (60 < (foldL s.data.toList).length) then ([], false) else (foldL s.data.toList, true) from by unfold dnL; rw [hbad, Bool.or_false])
      clear e hsz hbad
      generalize foldL s.data.toList = F at *
      obtain ⟨X, hX, rfl⟩ := text_of' F
      rw [hX] at CF
      have hlen : X.data.toList.length = X.size := by simp
      by_cases h0 : X.data.toList = []
      · obtain ⟨e1, e2⟩ := emp_yes h0
        have HR := Lib.hid (show dnL s.data.toList = ([], false) from by rw [HD.out, h0]; rfl)
        clear HD h0 hlen hX
        go_wp2_with fail
        refine (CF.out _).mono ?_
        rintro e w1 ⟨rfl, b1⟩
        go_wp2
        go_ret2
        exact ⟨by rw [HR.out]; rfl, hbw.then b1⟩
      · obtain ⟨e1, e2⟩ := emp_no h0
        by_cases h6 : 60 < X.size
        · have n1 : decide ((X.size : Int) > 60) = true := by simp; omega
          have n2 : (60 : Int) < (X.size : Int) := by omega
          have HR := Lib.hid (show dnL s.data.toList = ([], false) from by rw [HD.out, if_pos (by rw [hlen]; simp [h6])])
          clear HD h6 h0 hlen hX
          go_wp2_with fail
          refine (CF.out _).mono ?_
          rintro e w1 ⟨rfl, b1⟩
          go_wp2
          go_ret2
          exact ⟨by rw [HR.out]; rfl, hbw.then b1⟩
        · have n1 : decide ((X.size : Int) > 60) = false := by simp; omega
          have n2 : ¬ (60 : Int) < (X.size : Int) := by omega
          have HR := Lib.hid (show dnL s.data.toList = (X.data.toList, true) from by rw [HD.out, if_neg (by rw [hlen]; cases h : X.data.toList with | nil => exact absurd h h0 | cons b l => simp; omega)])
          clear HD h6 h0 hlen hX
          go_wp2_with fail
          refine (CF.out _).mono ?_
          rintro e w1 ⟨rfl, b1⟩
          go_wp2
          go_ret2
          exact ⟨by rw [HR.out]; show _ = Ending.returned (.tuple #[.string ⟨X.data.toList.toArray⟩, .bool true]); rw [Lib.mk_data]; rfl, hbw.then b1⟩

/-! ### A definition in a cell, and as a result -/
def dfV (x : Dfn) : Value := .agg #[.string ⟨x.nm.toArray⟩, .string ⟨x.url.toArray⟩, .string ⟨x.ttl.toArray⟩, .string ⟨x.txt.toArray⟩, .bool x.nt]
def DfAt (w : World) (g : Nat) (x : Dfn) : Prop := w.heap[g]? = some (.cells #[.string ⟨x.nm.toArray⟩, .string ⟨x.url.toArray⟩, .string ⟨x.ttl.toArray⟩, .string ⟨x.txt.toArray⟩, .bool x.nt] 29 (0, 0))
theorem DfAt.below {w w' : World} {g : Nat} {b : Dfn} (h : DfAt w g b) (hb : Below w.heap.size w w') : DfAt w' g b := (hb.block g (Array.getElem?_eq_some_iff.1 h).1).trans h
theorem DfAt.cells {w : World} {g : Nat} {x : Dfn} (h : DfAt w g x) : w.cell? ⟨g, 0, none⟩ = some (.string ⟨x.nm.toArray⟩) ∧ w.cell? ⟨g, 1, none⟩ = some (.string ⟨x.url.toArray⟩) ∧ w.cell? ⟨g, 2, none⟩ = some (.string ⟨x.ttl.toArray⟩) ∧
    w.cell? ⟨g, 3, none⟩ = some (.string ⟨x.txt.toArray⟩) ∧ w.cell? ⟨g, 4, none⟩ = some (.bool x.nt) ∧ ∀ i, w.frozen? ⟨g, i, none⟩ = false := by
  unfold DfAt at h
  refine ⟨?_, ?_, ?_, ?_, ?_, fun i => by simp [World.frozen?, h]⟩
  · rw [cell_of_row w _ 0 _ _ (0, 0) h]; rfl
  · rw [cell_of_row w _ 1 _ _ (0, 0) h]; rfl
  · rw [cell_of_row w _ 2 _ _ (0, 0) h]; rfl
  · rw [cell_of_row w _ 3 _ _ (0, 0) h]; rfl
  · rw [cell_of_row w _ 4 _ _ (0, 0) h]; rfl
/-- All five cells set anew. -/
theorem DfAt.set {w : World} {g : Nat} {b : Dfn} (h : DfAt w g b) (y : Dfn) :
    DfAt (((((w.setCell ⟨g, 0, none⟩ (.string ⟨y.nm.toArray⟩)).setCell ⟨g, 1, none⟩ (.string ⟨y.url.toArray⟩)).setCell ⟨g, 2, none⟩ (.string ⟨y.ttl.toArray⟩)).setCell ⟨g, 3, none⟩ (.string ⟨y.txt.toArray⟩)).setCell ⟨g, 4, none⟩ (.bool y.nt)) g y := by
  unfold DfAt at *
  simp [World.setCell, Array.getElem?_modify, h]
theorem below_set5 {B : Nat} {w0 w : World} {g : Nat} (h : Below B w0 w) (hg : B ≤ g) (u0 u1 u2 u3 u4 : Value) :
    Below B w0 (((((w.setCell ⟨g, 0, none⟩ u0).setCell ⟨g, 1, none⟩ u1).setCell ⟨g, 2, none⟩ u2).setCell ⟨g, 3, none⟩ u3).setCell ⟨g, 4, none⟩ u4) :=
  ((((h.setCell (p := ⟨g, 0, none⟩) hg u0).setCell (p := ⟨g, 1, none⟩) hg u1).setCell (p := ⟨g, 2, none⟩) hg u2).setCell (p := ⟨g, 3, none⟩) hg u3).setCell (p := ⟨g, 4, none⟩) hg u4
theorem dfAt_new (w : World) (x : Dfn) : DfAt (w.alloc (.cells #[.string ⟨x.nm.toArray⟩, .string ⟨x.url.toArray⟩, .string ⟨x.ttl.toArray⟩, .string ⟨x.txt.toArray⟩, .bool x.nt] 29)) w.heap.size x := heap_alloc_new w _
theorem dfAt_zero (w : World) : DfAt (w.alloc (.cells #[.string ⟨#[]⟩, .string ⟨#[]⟩, .string ⟨#[]⟩, .string ⟨#[]⟩, .bool false] 29)) w.heap.size noDfn := heap_alloc_new w _
theorem ret_df {fn : Func} {p u : Tmp} (hres : fn.results = #[.cell p 29, .tmp u]) {W : World} {g : Nat} {b : Dfn} (h : DfAt W g b) {c : Value} {tmps : Array Value} (h2 : tmps.getD p undef = .pointer (some ⟨g, 0, none⟩)) (h3 : tmps.getD u undef = c) :
    (results fn tmps).run Tryd.prog W = .ok (.tuple #[dfV b, c]) W := by
  obtain ⟨c0, c1, c2, c3, c4, _⟩ := h.cells
  rw [results_cell_tmp hres, h2, h3]
  go_simp
  rfl
def dfTib (x : Dfn × Bool) : Value := .tuple #[dfV x.1, .bool x.2]

set_option maxHeartbeats 4000000 in
theorem noteOf_any (s t : ByteArray) (w : World) (hs : s.size ≤ 17592186044416) :
    Calls Tryd.prog 21 #[.string s, .string t] w fun e w' => e = .returned (dfTib (noteL s.data.toList t.data.toList)) ∧ Below w.heap.size w w' := by
  have b0 : Below w.heap.size w (w.alloc (.cells #[.string ⟨#[]⟩, .string ⟨#[]⟩, .string ⟨#[]⟩, .string ⟨#[]⟩, .bool false] 29)) := (Below.refl _ w).alloc (Nat.le_refl _) _
  have z0 := dfAt_zero w
  have c1 := fun w1 => defName_any s w1 hs
  unfold noteL
  generalize dnL s.data.toList = d at *
  obtain ⟨n, ok⟩ := d
  simp only at c1 ⊢
  have HB0 := Lib.hid b0
  have HZ0 := Lib.hid z0
  have hs0 := alloc_size w (.cells #[.string ⟨#[]⟩, .string ⟨#[]⟩, .string ⟨#[]⟩, .string ⟨#[]⟩, .bool false] 29)
  clear b0 z0
  by_cases hy : ok = true ∧ ¬ t.data.toList = []
  · obtain ⟨rfl, ht⟩ := hy
    obtain ⟨e1, e2⟩ := emp_no ht
    rw [if_pos (by cases h : t.data.toList with | nil => exact absurd h ht | cons b l => rfl)]
    clear ht
    go_enter Tryd.func21, Tryd.ntmps21
    go_wp2_with fail
    refine (c1 _).mono ?_
    rintro e w1 ⟨rfl, b1⟩
    have HB1 := Lib.hid (HB0.out.then b1)
    have hz1 := HZ0.out.below b1
    obtain ⟨k0, k1, k2, k3, k4, kf⟩ := hz1.cells
    have hst := hz1.set ⟨n, [], [], t.data.toList, true⟩
    rw [show (⟨t.data.toList.toArray⟩ : ByteArray) = t from Lib.mk_data t] at hst
    have HS := Lib.hid hst
    have HW := Lib.hid (below_set5 HB1.out (Nat.le_refl _) (.string ⟨n.toArray⟩) (.string ⟨#[]⟩) (.string ⟨#[]⟩) (.string t) (.bool true))
    clear hst hz1 b1
    go_wp2
    (try simp only [Exit.inBlock, Exit.then])
    refine bodyPost_ret (v := dfTib (⟨n, [], [], t.data.toList, true⟩, true)) ?_ rfl ⟨rfl, HW.out⟩
    exact ret_df rfl (g := w.heap.size) HS.out rfl rfl
  · have hcase : ok = false ∨ ok = true ∧ t.data.toList = [] := by
      cases ok with
      | false => exact Or.inl rfl
      | true =>
        right
        refine ⟨rfl, ?_⟩
        by_cases h : t.data.toList = []
        · exact h
        · exact absurd ⟨rfl, h⟩ hy
    rw [if_neg (by
      intro h
      rw [Bool.and_eq_true] at h
      refine hy ⟨h.1, fun h2 => ?_⟩
      rw [h2] at h
      exact absurd h.2 (by decide))]
    clear hy
    rcases hcase with rfl | ⟨rfl, ht⟩
    · go_enter Tryd.func21, Tryd.ntmps21
      go_wp2_with fail
      refine (c1 _).mono ?_
      rintro e w1 ⟨rfl, b1⟩
      have HB1 := Lib.hid (HB0.out.then b1)
      have hz1 := HZ0.out.below b1
      obtain ⟨k0, k1, k2, k3, k4, kf⟩ := hz1.cells
      have HS := Lib.hid (hz1.set noDfn)
      have HW := Lib.hid (below_set5 HB1.out (Nat.le_refl _) (.string ⟨#[]⟩) (.string ⟨#[]⟩) (.string ⟨#[]⟩) (.string ⟨#[]⟩) (.bool false))
      clear hz1 b1
      go_wp2
      (try simp only [Exit.inBlock, Exit.then])
      refine bodyPost_ret (v := dfTib (noDfn, false)) ?_ rfl ⟨rfl, HW.out⟩
      exact ret_df rfl (g := w.heap.size) HS.out rfl rfl
    · obtain ⟨e1, e2⟩ := emp_yes ht
      clear ht
      go_enter Tryd.func21, Tryd.ntmps21
      go_wp2_with fail
      refine (c1 _).mono ?_
      rintro e w1 ⟨rfl, b1⟩
      have HB1 := Lib.hid (HB0.out.then b1)
      have hz1 := HZ0.out.below b1
      obtain ⟨k0, k1, k2, k3, k4, kf⟩ := hz1.cells
      have HS := Lib.hid (hz1.set noDfn)
      have HW := Lib.hid (below_set5 HB1.out (Nat.le_refl _) (.string ⟨#[]⟩) (.string ⟨#[]⟩) (.string ⟨#[]⟩) (.string ⟨#[]⟩) (.bool false))
      clear hz1 b1
      go_wp2
      (try simp only [Exit.inBlock, Exit.then])
      refine bodyPost_ret (v := dfTib (noDfn, false)) ?_ rfl ⟨rfl, HW.out⟩
      exact ret_df rfl (g := w.heap.size) HS.out rfl rfl

end Go.Proofs.YtioolcnoiaoflaaDoor
