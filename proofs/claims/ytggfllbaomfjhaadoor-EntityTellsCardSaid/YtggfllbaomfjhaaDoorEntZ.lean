/-
  EntityTells: the law's walk.
-/
import Derived.Test.YtggfllbaomfjhaaDoorEntY
namespace Go.Proofs.YtggfllbaomfjhaaDoor
open Go.RowKit
set_option linter.unusedSimpArgs false
set_option linter.unusedVariables false

set_option maxHeartbeats 8000000 in
set_option maxRecDepth 100000 in
theorem entityTells_no (w : World) (hn : NamedIs w) (a0 a1 : ByteArray) (h0 : a0.size ≤ 100) (h1 : a1.size ≤ 60) (L : List (List UInt8)) (hL : L.length ≤ 100) (X : ByteArray) (m : Int) 
    (k1 : ∀ w1, NamedIs w1 → Calls Tryd.prog 9 #[.string a0] w1 fun e w' => e = .returned (.tuple #[.string X, .int .i64 m]) ∧ Below w1.heap.size w1 w')
    (k2 : ∀ w1, Calls Tryd.prog 10 #[.string a0] w1 fun e w' => e = .returned (.tuple #[.string X, .int .i64 m]) ∧ Below w1.heap.size w1 w')
    (k3 : ∀ w1, Calls Tryd.prog 11 #[] w1 fun e w' => ∃ g B cb, e = .returned (.tuple #[.slice (some ⟨g, 0, none⟩) L.length L.length, .slice B 23 cb]) ∧ ListAt w' g L ∧ RowOf w' B cb runeVals ∧ Below w1.heap.size w1 w')
    (k4 : ∀ g w1, ListAt w1 g L → Calls Tryd.prog 12 #[.slice (some ⟨g, 0, none⟩) L.length L.length, .string a1] w1 fun e w' => e = .returned (.int .i64 (-1)) ∧ w1 = w')
    (k5 : ∀ w1, NamedIs w1 → Calls Tryd.prog 13 #[.string a1] w1 fun e w' => e = .returned (.tuple #[.string ByteArray.empty, .bool false]) ∧ Below w1.heap.size w1 w')
    (k6 : ∀ w1, NamedIs w1 → Calls Tryd.prog 14 #[] w1 fun e w' => ∃ v, e = .returned v ∧ w'.ownsRow w1.heap.size 9 1 v L.length (strs L) ∧ Below w1.heap.size w1 w') :
    Calls Tryd.prog 3 #[.string a0, .string a1] w fun e w' => e = .returned (.bool true) ∧ Below w.heap.size w w' := by
  have ca := alive3_any w hn
  have HN := Lib.hid hn
  have K3 := Lib.hid k3
  have K4 := Lib.hid k4
  have K6 := Lib.hid k6
  clear hn k3 k4 k6
  go_enter Tryd.func3, Tryd.ntmps3
  go_wp2_with fail
  refine ca.mono ?_
  rintro e w1 ⟨rfl, b1⟩
  go_wp2_with fail
  refine (k1 _ (HN.out.below b1)).mono ?_
  rintro e w2 ⟨rfl, b2⟩
  have q2 := b1.then b2
  go_wp2_with fail
  refine (k2 _).mono ?_
  rintro e w3 ⟨rfl, b3⟩
  have q3 := q2.then b3
  go_wp2_with fail
  refine (K3.out _).mono ?_
  rintro e w4 ⟨gn, B, cb, rfl, hla, hrb, b4⟩
  have q4 := q3.then b4
  have HLA := Lib.hid hla
  have HRB := Lib.hid hrb
  clear hla hrb
  go_wp2_with fail
  refine (K4.out _ _ HLA.out).mono ?_
  rintro e w' ⟨rfl, rfl⟩
  go_wp2_with fail
  refine (k5 _ (HN.out.below q4)).mono ?_
  rintro e w5 ⟨rfl, b5⟩
  have q5 := q4.then b5
  go_wp2_with fail
  have hblk0 : (w5.alloc (Obj.cells (bookCells (.slice none 0 0) (.slice none 0 0)) 42)).heap[w5.heap.size]? = some (.cells (bookCells (.slice none 0 0) (.slice none 0 0)) 42 (0, 0)) := heap_alloc_new w5 _
  have hbk0 := BookIs.new (B := w.heap.size) hblk0 q5.size
  have hq0 : Below w.heap.size w (w5.alloc (Obj.cells (bookCells (.slice none 0 0) (.slice none 0 0)) 42)) := q5.alloc q5.size _
  have HB0 := Lib.hid hbk0
  have HQ0 := Lib.hid hq0
  have HLA0 := Lib.hid ((HLA.out.kept (StrKept.below b5)).kept (StrKept.alloc w5 (Obj.cells (bookCells (.slice none 0 0) (.slice none 0 0)) 42)))
  clear hblk0 hbk0 hq0
  refine (K6.out _ (HN.out.below HQ0.out)).mono ?_
  rintro e w6 ⟨v1, rfl, hown1, b6⟩
  obtain ⟨A1, c1, rfl, _, _⟩ := RowOf.own hown1
  have HB6 := Lib.hid (HB0.out.below b6)
  have HQ6 := Lib.hid (HQ0.out.then b6)
  have HO1 := Lib.hid hown1
  clear hown1
  go_wp2_with fail
  refine (K6.out _ (HN.out.below HQ6.out)).mono ?_
  rintro e w7 ⟨v2, rfl, hown2, b7⟩
  obtain ⟨A2, c2, rfl, _, _⟩ := RowOf.own hown2
  have HB7 := Lib.hid (HB6.out.below b7)
  have HQ7 := Lib.hid (HQ6.out.then b7)
  have HO17 := Lib.hid (ownsRow_below HO1.out b7)
  have HO2 := Lib.hid hown2
  have HAP := Lib.hid (own_new HO1.out hown2 (Nat.le_refl _))
  have HLA7 := Lib.hid ((HLA0.out.kept (StrKept.below b6)).kept (StrKept.below b7))
  clear hown2
  go_wp2_with fail
  refine (texts_any w.heap.size w5.heap.size _ _ [] [] [] A1 c1 L w7 HQ7.out.size HB7.out (own_low HO17.out HQ0.out.size) (fun u hu => by simp at hu) (by simp) (by omega)).mono ?_
  rintro e w8 ⟨rfl, ⟨tv4, uv4, u1, hbk4, hu1⟩, hsk4, bb4⟩
  have HB8 := Lib.hid hbk4
  have HQ8 := Lib.hid (HQ7.out.trans bb4)
  have HO28 := Lib.hid (hsk4.row HO2.out)
  have HU1 := Lib.hid (show Apart (Value.slice A2 L.length c2) u1 from fun g hg hu => by have h1 := hu1 g hu; have h2 := (HO2.out.lt g hg).2; omega)
  have HLA8 := Lib.hid (HLA7.out.kept hsk4)
  clear hbk4 hsk4 bb4 hu1
  go_wp2_with fail
  refine (texts_any w.heap.size w5.heap.size tv4 uv4 [.slice A1 L.length c1] [u1] [L] A2 c2 L w8 HQ8.out.size HB8.out (own_low HO28.out HQ6.out.size) (fun u hu => by
    simp at hu
    rcases hu with rfl | rfl
    · exact HAP.out.symm
    · exact HU1.out) (by simp) (by omega)).mono ?_
  rintro e w9 ⟨rfl, ⟨tv5, uv5, u2, hbk5, _⟩, hsk5, bb5⟩
  have HB9 := Lib.hid hbk5
  have HQ9 := Lib.hid (HQ8.out.trans bb5)
  have hr1 : RowOf w9 A1 c1 (strs L) := by
    obtain ⟨Ax, cx, ex, hr, _⟩ := RowOf.own (hbk5.tl.2 0 (.slice A1 L.length c1) L rfl rfl)
    cases ex; exact hr
  have hr2 : RowOf w9 A2 c2 (strs L) := by
    obtain ⟨Ax, cx, ex, hr, _⟩ := RowOf.own (hbk5.tl.2 1 (.slice A2 L.length c2) L rfl rfl)
    cases ex; exact hr
  have hrn := (HLA8.out.kept hsk5).row (by omega)
  have cs1 := same_any A1 (some ⟨gn, 0, none⟩) c1 L.length L L w9 hr1 hrn
  have cs2 := fun n => same_any A2 (some ⟨gn, 0, none⟩) c2 L.length L L (w9.drewN n) (rowOf_heap rfl hr2) (rowOf_heap rfl hrn)
  rw [decide_eq_true (rfl : L = L)] at cs1 cs2
  have CS1 := Lib.hid cs1
  have CS2 := Lib.hid cs2
  clear hbk5 bb5 hr1 hr2 hrn hsk5 cs1 cs2
  go_wp2_with fail
  refine CS1.out.mono ?_
  rintro e w10 ⟨rfl, n1, rfl⟩
  go_wp2_with fail
  refine (CS2.out n1).mono ?_
  rintro e w11 ⟨rfl, n2, hw11⟩
  have q11 : Below w9.heap.size w9 w11 := by rw [hw11]; exact below_drewN' (below_drewN' (Below.refl _ _) n1) n2
  clear hw11
  go_wp2_with fail
  refine (apart_any w.heap.size w5.heap.size tv5 uv5 _ _ _ w11 (Nat.le_trans HQ9.out.size q11.size) (HB9.out.below q11) (by simp) (fun ls hls => by
    simp at hls
    rcases hls with rfl | rfl <;> omega)).mono ?_
  rintro e w12 ⟨rfl, b12⟩
  go_wp2
  go_ret
  exact ⟨rfl, (HQ9.out.trans (q11.mono HQ9.out.size)).trans b12⟩

set_option maxHeartbeats 8000000 in
set_option maxRecDepth 100000 in
theorem entityTells_yes (w : World) (hn : NamedIs w) (a0 a1 : ByteArray) (h0 : a0.size ≤ 100) (h1 : a1.size ≤ 60) (L : List (List UInt8)) (hL : L.length ≤ 100) (X : ByteArray) (m : Int) (k : Nat) (hk : k < 23) (T : ByteArray) (hT : Utf8.encode (runesL.getD k 0) = T)
    (k1 : ∀ w1, NamedIs w1 → Calls Tryd.prog 9 #[.string a0] w1 fun e w' => e = .returned (.tuple #[.string X, .int .i64 m]) ∧ Below w1.heap.size w1 w')
    (k2 : ∀ w1, Calls Tryd.prog 10 #[.string a0] w1 fun e w' => e = .returned (.tuple #[.string X, .int .i64 m]) ∧ Below w1.heap.size w1 w')
    (k3 : ∀ w1, Calls Tryd.prog 11 #[] w1 fun e w' => ∃ g B cb, e = .returned (.tuple #[.slice (some ⟨g, 0, none⟩) L.length L.length, .slice B 23 cb]) ∧ ListAt w' g L ∧ RowOf w' B cb runeVals ∧ Below w1.heap.size w1 w')
    (k4 : ∀ g w1, ListAt w1 g L → Calls Tryd.prog 12 #[.slice (some ⟨g, 0, none⟩) L.length L.length, .string a1] w1 fun e w' => e = .returned (.int .i64 k) ∧ w1 = w')
    (k5 : ∀ w1, NamedIs w1 → Calls Tryd.prog 13 #[.string a1] w1 fun e w' => e = .returned (.tuple #[.string T, .bool true]) ∧ Below w1.heap.size w1 w')
    (k6 : ∀ w1, NamedIs w1 → Calls Tryd.prog 14 #[] w1 fun e w' => ∃ v, e = .returned v ∧ w'.ownsRow w1.heap.size 9 1 v L.length (strs L) ∧ Below w1.heap.size w1 w') :
    Calls Tryd.prog 3 #[.string a0, .string a1] w fun e w' => e = .returned (.bool true) ∧ Below w.heap.size w w' := by
  have ca := alive3_any w hn
  have HN := Lib.hid hn
  have K3 := Lib.hid k3
  have K4 := Lib.hid k4
  have K6 := Lib.hid k6
  have HT := Lib.hid hT
  clear hT
  clear hn k3 k4 k6
  go_enter Tryd.func3, Tryd.ntmps3
  go_wp2_with fail
  refine ca.mono ?_
  rintro e w1 ⟨rfl, b1⟩
  go_wp2_with fail
  refine (k1 _ (HN.out.below b1)).mono ?_
  rintro e w2 ⟨rfl, b2⟩
  have q2 := b1.then b2
  go_wp2_with fail
  refine (k2 _).mono ?_
  rintro e w3 ⟨rfl, b3⟩
  have q3 := q2.then b3
  go_wp2_with fail
  refine (K3.out _).mono ?_
  rintro e w4 ⟨gn, B, cb, rfl, hla, hrb, b4⟩
  have q4 := q3.then b4
  have HLA := Lib.hid hla
  have HRB := Lib.hid hrb
  clear hla hrb
  go_wp2_with fail
  refine (K4.out _ _ HLA.out).mono ?_
  rintro e w' ⟨rfl, rfl⟩
  go_wp2_with fail
  refine (k5 _ (HN.out.below q4)).mono ?_
  rintro e w5 ⟨rfl, b5⟩
  have q5 := q4.then b5
  have hrb := HRB.out.below b5
  have hd1 := hrb.1
  have hd2 := hrb.2.1
  rw [show runeVals.length = 23 from by decide] at hd1
  unfold maxLen at hd2
  obtain ⟨b2, off2, rfl, hb2, hcell2⟩ := rune_cell hrb k hk
  clear hrb
  have hT := HT.out
  generalize runesL.getD k 0 = R at *
  go_wp2_with fail
  have hblk0 : (w5.alloc (Obj.cells (bookCells (.slice none 0 0) (.slice none 0 0)) 42)).heap[w5.heap.size]? = some (.cells (bookCells (.slice none 0 0) (.slice none 0 0)) 42 (0, 0)) := heap_alloc_new w5 _
  have hbk0 := BookIs.new (B := w.heap.size) hblk0 q5.size
  have hq0 : Below w.heap.size w (w5.alloc (Obj.cells (bookCells (.slice none 0 0) (.slice none 0 0)) 42)) := q5.alloc q5.size _
  have HB0 := Lib.hid hbk0
  have HQ0 := Lib.hid hq0
  have HLA0 := Lib.hid ((HLA.out.kept (StrKept.below b5)).kept (StrKept.alloc w5 (Obj.cells (bookCells (.slice none 0 0) (.slice none 0 0)) 42)))
  clear hblk0 hbk0 hq0
  refine (K6.out _ (HN.out.below HQ0.out)).mono ?_
  rintro e w6 ⟨v1, rfl, hown1, b6⟩
  obtain ⟨A1, c1, rfl, _, _⟩ := RowOf.own hown1
  have HB6 := Lib.hid (HB0.out.below b6)
  have HQ6 := Lib.hid (HQ0.out.then b6)
  have HO1 := Lib.hid hown1
  clear hown1
  go_wp2_with fail
  refine (K6.out _ (HN.out.below HQ6.out)).mono ?_
  rintro e w7 ⟨v2, rfl, hown2, b7⟩
  obtain ⟨A2, c2, rfl, _, _⟩ := RowOf.own hown2
  have HB7 := Lib.hid (HB6.out.below b7)
  have HQ7 := Lib.hid (HQ6.out.then b7)
  have HO17 := Lib.hid (ownsRow_below HO1.out b7)
  have HO2 := Lib.hid hown2
  have HAP := Lib.hid (own_new HO1.out hown2 (Nat.le_refl _))
  have HLA7 := Lib.hid ((HLA0.out.kept (StrKept.below b6)).kept (StrKept.below b7))
  clear hown2
  go_wp2_with fail
  refine (texts_any w.heap.size w5.heap.size _ _ [] [] [] A1 c1 L w7 HQ7.out.size HB7.out (own_low HO17.out HQ0.out.size) (fun u hu => by simp at hu) (by simp) (by omega)).mono ?_
  rintro e w8 ⟨rfl, ⟨tv4, uv4, u1, hbk4, hu1⟩, hsk4, bb4⟩
  have HB8 := Lib.hid hbk4
  have HQ8 := Lib.hid (HQ7.out.trans bb4)
  have HO28 := Lib.hid (hsk4.row HO2.out)
  have HU1 := Lib.hid (show Apart (Value.slice A2 L.length c2) u1 from fun g hg hu => by have h1 := hu1 g hu; have h2 := (HO2.out.lt g hg).2; omega)
  have HLA8 := Lib.hid (HLA7.out.kept hsk4)
  clear hbk4 hsk4 bb4 hu1
  go_wp2_with fail
  refine (texts_any w.heap.size w5.heap.size tv4 uv4 [.slice A1 L.length c1] [u1] [L] A2 c2 L w8 HQ8.out.size HB8.out (own_low HO28.out HQ6.out.size) (fun u hu => by
    simp at hu
    rcases hu with rfl | rfl
    · exact HAP.out.symm
    · exact HU1.out) (by simp) (by omega)).mono ?_
  rintro e w9 ⟨rfl, ⟨tv5, uv5, u2, hbk5, _⟩, hsk5, bb5⟩
  have HB9 := Lib.hid hbk5
  have HQ9 := Lib.hid (HQ8.out.trans bb5)
  have hr1 : RowOf w9 A1 c1 (strs L) := by
    obtain ⟨Ax, cx, ex, hr, _⟩ := RowOf.own (hbk5.tl.2 0 (.slice A1 L.length c1) L rfl rfl)
    cases ex; exact hr
  have hr2 : RowOf w9 A2 c2 (strs L) := by
    obtain ⟨Ax, cx, ex, hr, _⟩ := RowOf.own (hbk5.tl.2 1 (.slice A2 L.length c2) L rfl rfl)
    cases ex; exact hr
  have hrn := (HLA8.out.kept hsk5).row (by omega)
  have cs1 := same_any A1 (some ⟨gn, 0, none⟩) c1 L.length L L w9 hr1 hrn
  have cs2 := fun n => same_any A2 (some ⟨gn, 0, none⟩) c2 L.length L L (w9.drewN n) (rowOf_heap rfl hr2) (rowOf_heap rfl hrn)
  rw [decide_eq_true (rfl : L = L)] at cs1 cs2
  have CS1 := Lib.hid cs1
  have CS2 := Lib.hid cs2
  clear hbk5 bb5 hr1 hr2 hrn hsk5 cs1 cs2
  go_wp2_with fail
  refine CS1.out.mono ?_
  rintro e w10 ⟨rfl, n1, rfl⟩
  go_wp2_with fail
  refine (CS2.out n1).mono ?_
  rintro e w11 ⟨rfl, n2, hw11⟩
  have q11 : Below w9.heap.size w9 w11 := by rw [hw11]; exact below_drewN' (below_drewN' (Below.refl _ _) n1) n2
  clear hw11
  go_wp2_with fail
  refine (apart_any w.heap.size w5.heap.size tv5 uv5 _ _ _ w11 (Nat.le_trans HQ9.out.size q11.size) (HB9.out.below q11) (by simp) (fun ls hls => by
    simp at hls
    rcases hls with rfl | rfl <;> omega)).mono ?_
  rintro e w12 ⟨rfl, b12⟩
  go_wp2
  go_ret
  exact ⟨rfl, (HQ9.out.trans (q11.mono HQ9.out.size)).trans b12⟩


theorem names_len (w : World) (hn : NamedIs w) :
    Calls Tryd.prog 14 #[] w fun e w' => ∃ v, e = .returned v ∧ w'.ownsRow w.heap.size 9 1 v namesL.length (strs namesL) ∧ Below w.heap.size w w' := by
  rw [namesL_length]
  exact names_any w hn
theorem rat_len (g : Nat) (s : ByteArray) (w : World) (h : ListAt w g namesL) :
    Calls Tryd.prog 12 #[.slice (some ⟨g, 0, none⟩) namesL.length namesL.length, .string s] w fun e w' => e = .returned (.int .i64 (idxI s.data.toList)) ∧ w = w' := by
  have hr := h.row (by rw [namesL_length]; omega)
  rw [namesL_length] at hr ⊢
  exact rat_any _ 23 s w hr
theorem entityTells_walk (w : World) (hn : NamedIs w) (a0 : ByteArray) (w0 : a0.size ≤ maxLen) (a1 : ByteArray) (w1 : a1.size ≤ maxLen) :
    Calls Tryd.prog 3 #[.string a0, .string a1] w fun e w' => e = .returned (.bool true) ∧ Below w.heap.size w w' := by
  unfold maxLen at w0 w1
  by_cases h : a0.size ≤ 100 ∧ a1.size ≤ 60
  · have hl : namesL.length ≤ 100 := by rw [namesL_length]; omega
    rcases idx_named a1.data.toList with ⟨h1, h2⟩ | ⟨k, hk, h1, h2⟩
    · exact entityTells_no w hn a0 a1 h.1 h.2 namesL hl (atL a0.data.toList).1 (atL a0.data.toList).2 (fun w1 hn => at_any a0 w1 hn (by omega)) (fun w1 => rentity_any a0 w1 h.1) rnames_at
        (fun g w1 hw => by rw [← h1]; exact rat_len g a1 w1 hw) (fun w1 hn => by rw [← h2]; exact named_any a1 w1 hn) (fun w1 hn => names_len w1 hn)
    · exact entityTells_yes w hn a0 a1 h.1 h.2 namesL hl (atL a0.data.toList).1 (atL a0.data.toList).2 k hk (txB k) (rune_text k hk) (fun w1 hn => at_any a0 w1 hn (by omega)) (fun w1 => rentity_any a0 w1 h.1) rnames_at
        (fun g w1 hw => by rw [← h1]; exact rat_len g a1 w1 hw) (fun w1 hn => by rw [← h2]; exact named_any a1 w1 hn) (fun w1 hn => names_len w1 hn)
  · have ca := alive3_any w hn
    clear hn
    by_cases h0 : a0.size ≤ 100
    · have h1 : ¬ a1.size ≤ 60 := fun h1 => h ⟨h0, h1⟩
      clear h
      go_enter Tryd.func3, Tryd.ntmps3
      go_wp2_with (go_at_call 8; refine ca.mono ?_; rintro e w1 ⟨rfl, b1⟩)
      go_ret
      exact ⟨rfl, b1⟩
    · clear h
      go_enter Tryd.func3, Tryd.ntmps3
      go_wp2_with (go_at_call 8; refine ca.mono ?_; rintro e w1 ⟨rfl, b1⟩)
      go_ret
      exact ⟨rfl, b1⟩

end Go.Proofs.YtggfllbaomfjhaaDoor
