/-
  LineTells: the law's walk.
-/
import Derived.Test.YtkhmlnhfmlckdaaBookJ
import Derived.Test.YtkhmlnhfmlckdaaRefM
import Derived.Test.YtkhmlnhfmlckdaaLent
import Derived.Test.YtkhmlnhfmlckdaaLineB
namespace Go.Proofs.Ytkhmlnhfmlckdaa
open Go.RowKit
set_option linter.unusedSimpArgs false
set_option linter.unusedVariables false

theorem BookIs.below {w w' : World} {B b : Nat} {tv uv : Value} {vs us : List Value} {lss : List (List (List UInt8))} (h : BookIs w B b tv uv vs us lss) (hb : Below w.heap.size w w') : BookIs w' B b tv uv vs us lss :=
  ⟨(hb.block b h.lt).trans h.blk, h.base, ownsRow_below h.tvs hb, ownsRow_below h.uvs hb, h.ne, ⟨h.tl.1, fun i v ls hv hl => ownsRow_below (h.tl.2 i v ls hv hl) hb⟩, ⟨h.ul.1, fun i v ls hv hl => ownsRow_below (h.ul.2 i v ls hv hl) hb⟩, h.dist⟩
/-- A new book. -/
theorem BookIs.new {w : World} {B b : Nat} (hb : w.heap[b]? = some (.cells (bookCells (.slice none 0 0) (.slice none 0 0)) 33 (0, 0))) (hB : B ≤ b) : BookIs w B b (.slice none 0 0) (.slice none 0 0) [] [] [] :=
  ⟨hb, hB, World.ownsRow_nil _ _ _ _, World.ownsRow_nil _ _ _ _, fun g hg => by simp [Value.ownBlock] at hg, ⟨rfl, fun i v ls hv => by simp at hv⟩, ⟨rfl, fun i v ls hv => by simp at hv⟩, List.Pairwise.nil⟩

theorem alloc_size (w : World) (o : Obj) : (w.alloc o).heap.size = w.heap.size + 1 := by show (w.heap.push o).size = _; simp
theorem lineTells_long (w : World) (s l : ByteArray) (n : Int) (h : 400 < s.size ∨ (s.size ≤ 400 ∧ 100 < l.size)) (h1 : s.size ≤ 9223372036854775807) (h2 : l.size ≤ 9223372036854775807) :
    Calls Try.prog 3 #[.string s, .string l, .int .i64 n] w fun e w' => e = .returned (.bool true) ∧ Below w.heap.size w w' := by
  rcases h with h | ⟨h3, h⟩
  all_goals
    go_enter Try.func3, Try.ntmps3
    go_wp2_with (go_at_call 9; refine (alive_any _).mono ?_; rintro e w' ⟨rfl, b1⟩)
    go_ret
    exact ⟨rfl, b1⟩

set_option maxHeartbeats 4000000 in
set_option maxRecDepth 100000 in
theorem lineTells_short (w : World) (s l : ByteArray) (n : Int) (hs : s.size ≤ 400) (hl : l.size ≤ 100) (L : List (List UInt8)) (J E S : ByteArray) (bl : Bool) (i : Nat) (hL : L.length ≤ 1000) (hJ : (⟨(joinL L).toArray⟩ : ByteArray) = J) (hJl : (joinL L).length ≤ 10000) (hi : i ≤ 10000)
    (k1 : ∀ w1, Calls Try.prog 10 #[.string s] w1 fun e w' => ∃ v, e = .returned v ∧ w'.ownsRow w1.heap.size 9 1 v L.length (strs L) ∧ Below w1.heap.size w1 w')
    (k2 : ∀ w1, Calls Try.prog 14 #[.string s] w1 fun e w' => ∃ v, e = .returned v ∧ w'.ownsRow w1.heap.size 9 1 v L.length (strs L) ∧ Below w1.heap.size w1 w')
    (k3 : ∀ w1, Calls Try.prog 18 #[.string l] w1 fun e w' => e = .returned (.bool bl) ∧ Below w1.heap.size w1 w')
    (k4 : ∀ w1, Calls Try.prog 19 #[.string l] w1 fun e w' => e = .returned (.bool bl) ∧ w1 = w')
    (k5 : ∀ w1, Calls Try.prog 20 #[.string l] w1 fun e w' => e = .returned (.string E) ∧ Below w1.heap.size w1 w')
    (k6 : ∀ w1, Calls Try.prog 21 #[.string l] w1 fun e w' => e = .returned (.string E) ∧ w1 = w')
    (k7 : ∀ w1, Calls Try.prog 22 #[.string l] w1 fun e w' => e = .returned (.int .i64 i) ∧ Below w1.heap.size w1 w')
    (k8 : ∀ w1, Calls Try.prog 23 #[.string l] w1 fun e w' => e = .returned (.int .i64 i) ∧ w1 = w')
    (k9 : ∀ w1, Calls Try.prog 24 #[.string l, .int .i64 n] w1 fun e w' => e = .returned (.string S) ∧ Below w1.heap.size w1 w')
    (k10 : ∀ w1, Calls Try.prog 25 #[.string l, .int .i64 n] w1 fun e w' => e = .returned (.string S) ∧ w1 = w') :
    Calls Try.prog 3 #[.string s, .string l, .int .i64 n] w fun e w' => e = .returned (.bool true) ∧ Below w.heap.size w w' := by
  have HJ := Lib.hid hJ
  have K1 := Lib.hid k1
  have K2 := Lib.hid k2
  clear hJ k1 k2
  go_enter Try.func3, Try.ntmps3
  go_wp2_with fail
  refine (alive_any _).mono ?_
  rintro e w1 ⟨rfl, b1⟩
  go_wp2_with fail
  have hblk0 : (w1.alloc (Obj.cells (bookCells (.slice none 0 0) (.slice none 0 0)) 33)).heap[w1.heap.size]? = some (.cells (bookCells (.slice none 0 0) (.slice none 0 0)) 33 (0, 0)) := heap_alloc_new w1 _
  have hbk0 := BookIs.new (B := w.heap.size) hblk0 b1.size
  have hq0 : Below w.heap.size w (w1.alloc (Obj.cells (bookCells (.slice none 0 0) (.slice none 0 0)) 33)) := b1.alloc b1.size _
  have HB0 := Lib.hid hbk0
  have HQ0 := Lib.hid hq0
  clear hblk0 hbk0 hq0
  refine (K1.out _).mono ?_
  rintro e w2 ⟨v1, rfl, hown1, b2⟩
  obtain ⟨A1, c1, rfl, _, _⟩ := RowOf.own hown1
  have HB2 := Lib.hid (HB0.out.below b2)
  have HQ2 := Lib.hid (HQ0.out.trans (b2.mono HQ0.out.size))
  have HO1 := Lib.hid hown1
  clear hown1
  go_wp2_with fail
  refine (K1.out _).mono ?_
  rintro e w3 ⟨v2, rfl, hown2, b3⟩
  obtain ⟨A2, c2, rfl, _, _⟩ := RowOf.own hown2
  have HB3 := Lib.hid (HB2.out.below b3)
  have HQ3 := Lib.hid (HQ2.out.then b3)
  have HO13 := Lib.hid (ownsRow_below HO1.out b3)
  have HO2 := Lib.hid hown2
  have HAP := Lib.hid (own_new HO1.out hown2 (Nat.le_refl _))
  clear hown2
  go_wp2_with fail
  refine (texts_any w.heap.size w1.heap.size _ _ [] [] [] A1 c1 L w3 HQ3.out.size HB3.out (own_low HO13.out HQ0.out.size) (fun u hu => by simp at hu) (by simp) (by omega)).mono ?_
  rintro e w4 ⟨rfl, ⟨tv4, uv4, u1, hbk4, hu1⟩, hsk4, bb4⟩
  have HB4 := Lib.hid hbk4
  have HQ4 := Lib.hid (HQ3.out.trans bb4)
  have HO24 := Lib.hid (hsk4.row HO2.out)
  have HU1 := Lib.hid (show Apart (Value.slice A2 L.length c2) u1 from fun g hg hu => by have h1 := hu1 g hu; have h2 := (HO2.out.lt g hg).2; omega)
  clear hbk4 hsk4 bb4 hu1
  go_wp2_with fail
  refine (texts_any w.heap.size w1.heap.size tv4 uv4 [.slice A1 L.length c1] [u1] [L] A2 c2 L w4 HQ4.out.size HB4.out (own_low HO24.out HQ2.out.size) (fun u hu => by
    simp at hu
    rcases hu with rfl | rfl
    · exact HAP.out.symm
    · exact HU1.out) (by simp) (by omega)).mono ?_
  rintro e w5 ⟨rfl, ⟨tv5, uv5, u2, hbk5, _⟩, _, bb5⟩
  have HB5 := Lib.hid hbk5
  have HQ5 := Lib.hid (HQ4.out.trans bb5)
  have hr1 : RowOf w5 A1 c1 (strs L) := by
    obtain ⟨Ax, cx, ex, hr, _⟩ := RowOf.own (hbk5.tl.2 0 (.slice A1 L.length c1) L rfl rfl)
    cases ex; exact hr
  have hr2 : RowOf w5 A2 c2 (strs L) := by
    obtain ⟨Ax, cx, ex, hr, _⟩ := RowOf.own (hbk5.tl.2 1 (.slice A2 L.length c2) L rfl rfl)
    cases ex; exact hr
  clear hbk5 bb5
  go_wp2_with fail
  refine (lentTexts_any A2 c2 L w5 hr2 (by omega)).mono ?_
  rintro e w6 ⟨gm, cm, rfl, hownm, b6⟩
  obtain ⟨Am, cm', em, hrm, _⟩ := RowOf.own hownm
  cases em
  have hrm2 := hrm.take L.length
  rw [show (strs (L ++ [markW])).take L.length = strs L from by simp [strs]] at hrm2
  have HB6 := Lib.hid (HB5.out.below b6)
  have HQ6 := Lib.hid (HQ5.out.then b6)
  have HR1 := Lib.hid (hr1.below b6)
  have HR2 := Lib.hid (hr2.below b6)
  have HRM := Lib.hid hrm
  have HRM2 := Lib.hid hrm2
  clear hr1 hr2 hrm hrm2 hownm
  go_wp2_with fail
  refine (K2.out _).mono ?_
  rintro e w7 ⟨v7, rfl, hown7, b7⟩
  obtain ⟨A7, c7, rfl, hr7, _⟩ := RowOf.own hown7
  have cs7 := same_any A1 A7 c1 c7 L L w7 (HR1.out.below b7) hr7
  rw [decide_eq_true (rfl : L = L)] at cs7
  clear hown7 hr7
  go_wp2_with fail
  refine cs7.mono ?_
  rintro e w8' ⟨rfl, n8, rfl⟩
  have q8 : Below w6.heap.size w6 (w7.drewN n8) := below_drewN' b7 n8
  have HS8 := Lib.hid q8.size
  generalize w7.drewN n8 = w8 at *
  have cs8 := same_any A1 A2 c1 c2 L L w8 (HR1.out.below q8) (HR2.out.below q8)
  rw [decide_eq_true (rfl : L = L)] at cs8
  clear cs7
  go_wp2_with fail
  refine cs8.mono ?_
  rintro e w9' ⟨rfl, n9, rfl⟩
  have q9 : Below w6.heap.size w6 (w8.drewN n9) := below_drewN' q8 n9
  generalize w8.drewN n9 = w9 at *
  clear cs8
  have cj := join_any (some ⟨gm, 0, none⟩) cm L w9 (HRM2.out.below q9) (by omega)
  rw [HJ.out] at cj
  go_wp2_with fail
  refine cj.mono ?_
  rintro e w10 ⟨rfl, b10⟩
  have q10 := q9.trans (b10.mono q9.size)
  clear cj
  have ck := rjoin_any A2 c2 L w10 (HR2.out.below q10) (by omega)
  rw [HJ.out] at ck
  go_wp2_with fail
  refine ck.mono ?_
  rintro e w10' ⟨rfl, rfl⟩
  clear ck
  have cy := staysTexts_any gm cm A2 c2 L w10 (HRM.out.below q10) (HR2.out.below q10) (by omega)
  go_wp2_with fail
  refine cy.mono ?_
  rintro e w11' ⟨rfl, n11, rfl⟩
  have q11 : Below w6.heap.size w6 (w10.drewN n11) := below_drewN' q10 n11
  generalize w10.drewN n11 = w11 at *
  clear cy
  go_wp2_with fail
  refine (k3 _).mono ?_
  rintro e w12 ⟨rfl, b12⟩
  have q12 := q11.trans (b12.mono q11.size)
  go_wp2_with (go_at_call 19; refine (k4 _).mono ?_; rintro e w' ⟨rfl, rfl⟩)
  refine (k5 _).mono ?_
  rintro e w13 ⟨rfl, b13⟩
  have q13 := q12.trans (b13.mono q12.size)
  go_wp2_with (go_at_call 21; refine (k6 _).mono ?_; rintro e w' ⟨rfl, rfl⟩)
  refine (k7 _).mono ?_
  rintro e w14 ⟨rfl, b14⟩
  have q14 := q13.trans (b14.mono q13.size)
  go_wp2_with (go_at_call 23; refine (k8 _).mono ?_; rintro e w' ⟨rfl, rfl⟩)
  refine (k9 _).mono ?_
  rintro e w15 ⟨rfl, b15⟩
  have q15 := q14.trans (b15.mono q14.size)
  go_wp2_with (go_at_call 25; refine (k10 _).mono ?_; rintro e w' ⟨rfl, rfl⟩)
  refine (apart_any w.heap.size w1.heap.size tv5 uv5 _ _ _ w15 (Nat.le_trans HQ6.out.size q15.size) (HB6.out.below q15) (by simp) (fun ls hls => by
    simp at hls
    rcases hls with rfl | rfl <;> omega)).mono ?_
  rintro e w16 ⟨rfl, b16⟩
  go_wp2
  go_ret
  exact ⟨rfl, (HQ6.out.trans (q15.mono HQ6.out.size)).trans b16⟩

theorem lineTells_walk (w : World) (a0 : ByteArray) (w0 : a0.size ≤ maxLen) (a1 : ByteArray) (w1 : a1.size ≤ maxLen) (a2 : Int) (w2 : (Lit.int .i64 a2).wf = true) :
    Calls Try.prog 3 #[.string a0, .string a1, .int .i64 a2] w fun e w' => e = .returned (.bool true) ∧ Below w.heap.size w w' := by
  unfold maxLen at w0 w1
  have hw2 : -9223372036854775808 ≤ a2 ∧ a2 ≤ 9223372036854775807 := by simpa [Lit.wf, IntKind.min, IntKind.max, IntKind.signed, IntKind.bits] using w2
  by_cases h : a0.size ≤ 400 ∧ a1.size ≤ 100
  · have hl : a0.data.toList.length = a0.size := by simp
    have hl1 : a1.data.toList.length = a1.size := by simp
    have hm1 := mCols_le a1.data.toList 0
    have hm2 := mSize_le a1.data.toList
    have hle := lfsTo_le a0 a0.size
    have hcount : (splitL a0.data.toList).length ≤ 401 := by
      by_cases h0 : 0 < a0.size
      · rw [count_last a0 h0]; split <;> omega
      · rw [count_empty a0 h0]; omega
    have hjs := join_split a0.data.toList []
    rw [List.nil_append] at hjs
    exact lineTells_short w a0 a1 a2 h.1 h.2 (splitL a0.data.toList) _ _ _ _ _ (by omega) rfl (by
        unfold splitL
        rw [hjs, List.length_append]
        split <;> simp <;> omega) (by omega)
      (fun w1 => split_any a0 w1 (by omega)) (fun w1 => rsplit_any a0 w1 (by omega)) (fun w1 => blank_any a1 w1 (by omega)) (fun w1 => rblank_any a1 w1 (by omega)) (expandIs a1 (by omega)) (fun w1 => rexpand_any a1 w1 (by omega))
      (fun w1 => indent_any a1 w1 (by omega)) (fun w1 => rindent_any a1 w1 (by omega)) (stripIs a1 a2 a2.toNat rfl (by omega) (by omega)) (fun w1 => rstrip_any a1 a2 w1 (by omega) hw2.2 hw2.1)
  · exact lineTells_long w a0 a1 a2 (by omega) w0 w1

end Go.Proofs.Ytkhmlnhfmlckdaa
