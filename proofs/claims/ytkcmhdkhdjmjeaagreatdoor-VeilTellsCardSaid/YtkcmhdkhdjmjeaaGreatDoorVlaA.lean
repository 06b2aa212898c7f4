/-
  The laws of package veil: the diamond, a reader of it, alive: their first call.
  The laws of package veil: alive: their first call.
-/
import Derived.Test.YtkcmhdkhdjmjeaaGreatDoorSerA
import Derived.Test.YtkcmhdkhdjmjeaaGreatDoorSerF
import Derived.Test.YtkcmhdkhdjmjeaaGreatDoorLatN
namespace Go.Proofs.YtkcmhdkhdjmjeaaGreatDoor
open Go.RowKit
set_option linter.unusedSimpArgs false
set_option linter.unusedVariables false
set_option maxRecDepth 100000

/-- What the walks ask of the world they begin in. -/
structure W7 (w : World) : Prop where
  tab : TabIs w
  max : MaxL w
theorem W7.below {w w' : World} (h : W7 w) (hb : Below w.heap.size w w') : W7 w' := ⟨h.tab.below hb, h.max.below hb⟩

def dN : List Txt := [[108, 111, 119], [108, 101, 102, 116], [114, 105, 103, 104, 116], [104, 105, 103, 104]]
abbrev dR : Rel := leqS 4 ps4
def svD (j : Nat) : Sv := svL dN dR j
theorem dLat : Lat 4 dR := ⟨fun a _ => leqS_refl 4 ps4 a, fun a b m _ _ hm h1 h2 => leqS_trans hm h1 h2, same4.symm.sound sound4⟩
/-- A reader of the diamond, in block b. -/
def SeerD (w : World) (b j : Nat) : Prop := ∃ A c lb, SeerAt w b A c lb dN dR j ∧ MaxL w
section
variable {w w' : World} {b j : Nat}
theorem SeerD.below (h : SeerD w b j) (hb : Below w.heap.size w w') : SeerD w' b j := by
  obtain ⟨A, c, lb, h, hm⟩ := h
  exact ⟨A, c, lb, h.below hb, hm.below hb⟩
theorem SeerD.blt (h : SeerD w b j) : b < w.heap.size := by
  obtain ⟨A, c, lb, h, hm⟩ := h
  exact h.blt
theorem seesD_any (h : SeerD w b j) (B : Option Addr) (cb : Nat) (ls : List Txt) (hrow : RowOf w B cb (strs ls)) :
    Calls Tryz.prog 8 #[.pointer (some ⟨b, 0, none⟩), .slice B ls.length cb] w fun e w' => e = .returned (.bool (ls.all (svD j))) ∧ Below w.heap.size w w' := by
  obtain ⟨A, c, lb, h, hm⟩ := h
  have := sees_any h B cb ls hrow
  rw [seesL_all h.L h.pos h.lt] at this
  exact this
theorem seesD_one (h : SeerD w b j) (x : Txt) :
    Calls Tryz.prog 8 #[.pointer (some ⟨b, 0, none⟩), .slice (some ⟨w.heap.size, 0, none⟩) 1 1] (w.alloc (.cells #[.string ⟨x.toArray⟩] 9)) fun e w' => e = .returned (.bool (svD j x)) ∧ Below w.heap.size w w' := by
  obtain ⟨A, c, lb, h, hm⟩ := h
  exact sees_one h x
theorem seesD_two (h : SeerD w b j) (x y : Txt) :
    Calls Tryz.prog 8 #[.pointer (some ⟨b, 0, none⟩), .slice (some ⟨w.heap.size, 0, none⟩) 2 2] (w.alloc (.cells #[.string ⟨x.toArray⟩, .string ⟨y.toArray⟩] 9)) fun e w' => e = .returned (.bool (svD j x && svD j y)) ∧ Below w.heap.size w w' := by
  have b0 : Below w.heap.size w (w.alloc (.cells #[.string ⟨x.toArray⟩, .string ⟨y.toArray⟩] 9)) := (Below.refl _ w).alloc (Nat.le_refl _) _
  have hr := rowOf_lit w 9 (strs [x, y]) (by rw [strs_length]; show 2 ≤ maxLen; decide)
  have := seesD_any (h.below b0) (some ⟨w.heap.size, 0, none⟩) 2 [x, y] hr
  rw [show [x, y].all (svD j) = (svD j x && svD j y) from by simp] at this
  exact this.mono fun e w' ⟨he, hb⟩ => ⟨he, b0.then hb⟩
theorem unknownD_any (h : SeerD w b j) (x : ByteArray) :
    Calls Tryz.prog 9 #[.pointer (some ⟨b, 0, none⟩), .string x] w fun e w' => e = .returned (.bool (decide (idxL dN x.data.toList < 0))) ∧ Below w.heap.size w w' := by
  obtain ⟨A, c, lb, h, hm⟩ := h
  exact unknown_any h x
theorem veilD_any (h : SeerD w b j) (doc : ByteArray) (hs : doc.size ≤ 20000) :
    Calls Tryz.prog 10 #[.pointer (some ⟨b, 0, none⟩), .string doc] w fun e w' => e = .returned (.string ⟨(veilL (svD j) doc.data.toList).toArray⟩) ∧ Below w.heap.size w w' := by
  obtain ⟨A, c, lb, h, hm⟩ := h
  exact veil_any h hm doc hs
theorem lineD_any (h : SeerD w b j) (l : ByteArray) (hs : l.size ≤ 100000) (B : Option Addr) (cb : Nat) (ls : List Txt) (hrow : RowOf w B cb (strs ls)) :
    Calls Tryz.prog 11 #[.pointer (some ⟨b, 0, none⟩), .string l, .slice B ls.length cb] w fun e w' => e = .returned (.string ⟨(lineL (fun x => ls.all (svD j) && svD j x) l.data.toList).toArray⟩) ∧ Below w.heap.size w w' := by
  obtain ⟨A, c, lb, h, hm⟩ := h
  have := line_any h hm l hs B cb ls hrow
  have e : underP dN dR j ls = fun x => ls.all (svD j) && svD j x := by
    funext x
    unfold underP
    rw [seesL_all h.L h.pos h.lt]
    rfl
  rw [e] at this
  exact this
end

theorem dN_right : rightL (dN, ps4) = true := by decide +kernel
theorem dN_small : ∀ y ∈ dN, y.length ≤ 9223372036854775807 := by decide
/-- A level's name. -/
def dNm (j : Nat) : Txt := dN.getD j []
theorem dN_idx : ∀ (j : Nat), j < 4 → idxL dN (dNm j) = j
  | 0, _ => by decide +kernel
  | 1, _ => by decide +kernel
  | 2, _ => by decide +kernel
  | 3, _ => by decide +kernel
  | n + 4, h => by omega
theorem dN_at (j : Nat) (h : j < dN.length) : dN[j] = dNm j := by unfold dNm; rw [List.getD_eq_getElem?_getD, List.getElem?_eq_getElem h]; rfl
theorem newD_err (x : Txt) : newErr (dN, ps4) x = if idxL dN x < 0 then 2 else 0 := by
  unfold newErr
  rw [if_neg (by rw [dN_right]; simp)]
  have : errS ((dN, ps4) : St).1.length ((dN, ps4) : St).2 = 0 := err4
  rw [if_neg (by rw [this]; simp)]
/-- The diamond in memory. -/
def DiaAt (w : World) (A : Option Addr) (ca : Nat) (B : Option Addr) (cb : Nat) : Prop := RowOf w A ca (strs dN) ∧ PairsAt w B cb ps4
theorem DiaAt.below {w w' : World} {A B : Option Addr} {ca cb : Nat} (h : DiaAt w A ca B cb) (hb : Below w.heap.size w w') : DiaAt w' A ca B cb := ⟨h.1.below hb, h.2.below hb⟩
theorem results_cell_one {fn : Func} {p : Tmp} {ty : TypeId} (h : fn.results = #[.cell p ty]) (tmps : Array Value) (P : Program) (w : World) :
    (results fn tmps).run P w = ((asAddr (tmps.getD p undef)).run P w).andThen fun a w₁ => (loadVar ty a).run P w₁ := by
  simp only [results, h]
  simp [Sem.run_bind, Result.andThen]
theorem diamond_any (w : World) : Calls Tryz.prog 18 #[] w fun e w' =>
    ∃ a1 a2, e = .returned (.agg #[.slice a1 4 4, .slice a2 4 4]) ∧ DiaAt w' a1 4 a2 4 ∧ Below w.heap.size w w' := by
  have key : ∀ (o : Obj), DiaAt (((w.alloc o).alloc (.cells (strs dN).toArray 9)).alloc (.cells (prCells ps4).toArray 52)) (some ⟨w.heap.size + 1, 0, none⟩) 4 (some ⟨w.heap.size + 1 + 1, 0, none⟩) 4 ∧
      Below w.heap.size w (((w.alloc o).alloc (.cells (strs dN).toArray 9)).alloc (.cells (prCells ps4).toArray 52)) := by
    intro o
    have b0 : Below w.heap.size w (w.alloc o) := (Below.refl _ w).alloc (Nat.le_refl _) _
    have hs := alloc_size w o
    generalize w.alloc o = w1 at *
    have h1 := rowOf_lit w1 9 (strs dN) (by rw [strs_length]; show 4 ≤ maxLen; decide)
    have b1 : Below w1.heap.size w1 (w1.alloc (.cells (strs dN).toArray 9)) := (Below.refl _ w1).alloc (Nat.le_refl _) _
    have hs1 := alloc_size w1 (.cells (strs dN).toArray 9)
    rw [hs] at h1 hs1
    generalize w1.alloc (.cells (strs dN).toArray 9) = w2 at *
    have h2 := pairs_lit w2 ps4 52 (by decide)
    have b2 : Below w2.heap.size w2 (w2.alloc (.cells (prCells ps4).toArray 52)) := (Below.refl _ w2).alloc (Nat.le_refl _) _
    rw [hs1] at h2
    exact ⟨⟨h1.below b2, h2⟩, (b0.then b1).then b2⟩
  have HK := Lib.hid (key (.cells #[.slice (some ⟨w.heap.size + 1, 0, none⟩) 4 4, .slice (some ⟨w.heap.size + 1 + 1, 0, none⟩) 4 4] 26))
  have hX : ((w.alloc (.cells #[.slice (some ⟨w.heap.size + 1, 0, none⟩) 4 4, .slice (some ⟨w.heap.size + 1 + 1, 0, none⟩) 4 4] 26)).alloc (.cells (strs dN).toArray 9)).alloc (.cells (prCells ps4).toArray 52) =
    ((w.alloc (.cells #[.slice (some ⟨w.heap.size + 1, 0, none⟩) 4 4, .slice (some ⟨w.heap.size + 1 + 1, 0, none⟩) 4 4] 26)).alloc (.cells #[.string ⟨#[108, 111, 119]⟩, .string ⟨#[108, 101, 102, 116]⟩, .string ⟨#[114, 105, 103, 104, 116]⟩, .string ⟨#[104, 105, 103, 104]⟩] 9)).alloc
      (.cells #[.int .i64 0, .int .i64 1, .int .i64 0, .int .i64 2, .int .i64 1, .int .i64 3, .int .i64 2, .int .i64 3] 52) := rfl
  have HX := Lib.hid hX
  clear key hX
  go_enter Tryz.func18, Tryz.ntmps18
  go_wp2
  (try simp only [Exit.inBlock, Exit.then])
  refine bodyPost_ret (v := .agg #[.slice (some ⟨w.heap.size + 1, 0, none⟩) 4 4, .slice (some ⟨w.heap.size + 1 + 1, 0, none⟩) 4 4]) ?_ rfl ⟨_, _, rfl, by rw [← HX.out]; exact HK.out.1, by rw [← HX.out]; exact HK.out.2⟩
  rw [results_cell_one rfl]
  go_simp
theorem newD_any {w : World} {A B : Option Addr} {ca cb : Nat} (h7 : W7 w) (h : DiaAt w A ca B cb) (j : Nat) (hj : j < 4) :
    Calls Tryz.prog 5 #[.agg #[.slice A 4 ca, .slice B 4 cb], .string ⟨(dNm j).toArray⟩] w fun e w' => ∃ b, e = .returned (.tuple #[.pointer (some ⟨b, 0, none⟩), .int .i64 0]) ∧ w.heap.size ≤ b ∧ SeerD w' b j ∧ Below w.heap.size w w' := by
  have hc := newSeer_any A ca B cb (dN, ps4) ⟨(dNm j).toArray⟩ w h7.tab h.1 h.2 dN_small
  refine hc.mono ?_
  rintro e w' ⟨hb, h1⟩
  have e1 : newErr (dN, ps4) (⟨(dNm j).toArray⟩ : ByteArray).data.toList = 0 := by
    rw [newD_err, show (⟨(dNm j).toArray⟩ : ByteArray).data.toList = dNm j from rfl, dN_idx j hj, if_neg (by omega)]
  rcases h1 with ⟨hn, _⟩ | ⟨_, b, A2, c2, lb, rfl, hbl, hs⟩
  · exact absurd e1 hn
  · refine ⟨b, rfl, hbl, ⟨A2, c2, lb, ?_, h7.max.below hb⟩, hb⟩
    rw [show (⟨(dNm j).toArray⟩ : ByteArray).data.toList = dNm j from rfl, dN_idx j hj, Int.toNat_natCast] at hs
    exact hs
theorem newD_none {w : World} {A B : Option Addr} {ca cb : Nat} (h7 : W7 w) (h : DiaAt w A ca B cb) (x : ByteArray) (hx : idxL dN x.data.toList < 0) :
    Calls Tryz.prog 5 #[.agg #[.slice A 4 ca, .slice B 4 cb], .string x] w fun e w' => e = .returned (.tuple #[.pointer none, .int .i64 2]) ∧ Below w.heap.size w w' := by
  have hc := newSeer_any A ca B cb (dN, ps4) x w h7.tab h.1 h.2 dN_small
  refine hc.mono ?_
  rintro e w' ⟨hb, h1⟩
  have e1 : newErr (dN, ps4) x.data.toList = 2 := by rw [newD_err, if_pos hx]
  rw [e1] at h1
  rcases h1 with ⟨_, rfl⟩ | ⟨hn, _⟩
  · exact ⟨rfl, hb⟩
  · cases hn

end Go.Proofs.YtkcmhdkhdjmjeaaGreatDoor

namespace Go.Proofs.YtkcmhdkhdjmjeaaGreatDoor
open Go.RowKit
set_option linter.unusedSimpArgs false
set_option linter.unusedVariables false
set_option maxRecDepth 100000

def nLow : Txt := [108, 111, 119]
def nLeft : Txt := [108, 101, 102, 116]
def nRight : Txt := [114, 105, 103, 104, 116]
def nHigh : Txt := [104, 105, 103, 104]
def nOdd : Txt := [111, 100, 100]
theorem al_1 : (svD 1 nLow && svD 1 nLeft) = true := by decide +kernel
theorem al_2 : (svD 1 nLeft && svD 1 nRight) = false := by decide +kernel
theorem al_3 : svD 1 nOdd = false := by decide +kernel
theorem al_4 : decide (idxL dN nOdd < 0) = true := by decide +kernel
theorem al_5 : veilL (svD 1) [97, 32, 123, 124, 104, 105, 103, 104, 58, 32, 98, 124, 125, 32, 99, 10] = [97, 32, 123, 124, 104, 105, 103, 104, 58, 124, 125, 32, 99, 10] := by decide +kernel
theorem al_6 : veilL (svD 1) [58, 58, 58, 123, 114, 105, 103, 104, 116, 125, 10, 120, 10, 58, 58, 58, 10, 121] = [58, 58, 58, 123, 114, 105, 103, 104, 116, 125, 10, 58, 58, 58, 10, 121, 10] := by decide +kernel

set_option maxHeartbeats 4000000 in
theorem alive7_any (w : World) (h7 : W7 w) : Calls Tryz.prog 4 #[] w fun e w' => e = .returned (.bool true) ∧ Below w.heap.size w w' := by
  go_enter Tryz.func4, Tryz.ntmps4
  go_wp2_with fail
  refine (diamond_any _).mono ?_
  rintro e w1 ⟨a1, a2, rfl, hd, b1⟩
  have c1 := newD_any (h7.below b1) hd 1 (by decide)
  rw [show (⟨(dNm 1).toArray⟩ : ByteArray) = ⟨#[108, 101, 102, 116]⟩ from rfl] at c1
  have HB1 := Lib.hid b1
  clear b1 hd
  go_wp2_with fail
  refine c1.mono ?_
  rintro e w2 ⟨b, rfl, hbl, hs, b2⟩
  have HB2 := Lib.hid (HB1.out.then b2)
  have HS2 := Lib.hid hs
  clear b2 hs c1
  go_wp2_with fail
  refine (diamond_any _).mono ?_
  rintro e w3 ⟨a3, a4, rfl, hd, b3⟩
  have HS3 := Lib.hid (HS2.out.below b3)
  have HB3 := Lib.hid (HB2.out.then b3)
  have c2 := newD_none (h7.below HB3.out) hd ⟨#[110, 111, 110, 101]⟩ (by decide +kernel)
  clear b3 hd
  go_wp2_with fail
  refine c2.mono ?_
  rintro e w4 ⟨rfl, b4⟩
  have HS4 := Lib.hid (HS3.out.below b4)
  have HB4 := Lib.hid (HB3.out.then b4)
  have c3 := seesD_two HS4.out nLow nLeft
  rw [al_1, show (⟨nLow.toArray⟩ : ByteArray) = ⟨#[108, 111, 119]⟩ from rfl, show (⟨nLeft.toArray⟩ : ByteArray) = ⟨#[108, 101, 102, 116]⟩ from rfl] at c3
  clear b4 c2
  go_wp2_with fail
  refine c3.mono ?_
  rintro e w5 ⟨rfl, b5⟩
  have HS5 := Lib.hid (HS4.out.below b5)
  have HB5 := Lib.hid (HB4.out.then b5)
  have c4 := seesD_two HS5.out nLeft nRight
  rw [al_2, show (⟨nLeft.toArray⟩ : ByteArray) = ⟨#[108, 101, 102, 116]⟩ from rfl, show (⟨nRight.toArray⟩ : ByteArray) = ⟨#[114, 105, 103, 104, 116]⟩ from rfl] at c4
  clear b5 c3
  go_wp2_with fail
  refine c4.mono ?_
  rintro e w6 ⟨rfl, b6⟩
  have HS6 := Lib.hid (HS5.out.below b6)
  have HB6 := Lib.hid (HB5.out.then b6)
  have c5 := seesD_one HS6.out nOdd
  rw [al_3, show (⟨nOdd.toArray⟩ : ByteArray) = ⟨#[111, 100, 100]⟩ from rfl] at c5
  clear b6 c4
  go_wp2_with fail
  refine c5.mono ?_
  rintro e w7 ⟨rfl, b7⟩
  have HS7 := Lib.hid (HS6.out.below b7)
  have HB7 := Lib.hid (HB6.out.then b7)
  have c6 := unknownD_any HS7.out ⟨#[111, 100, 100]⟩
  rw [show decide (idxL dN (⟨#[111, 100, 100]⟩ : ByteArray).data.toList < 0) = true from al_4] at c6
  clear b7 c5
  go_wp2_with fail
  refine c6.mono ?_
  rintro e w8 ⟨rfl, b8⟩
  have HS8 := Lib.hid (HS7.out.below b8)
  have HB8 := Lib.hid (HB7.out.then b8)
  have c7 := veilD_any HS8.out ⟨#[97, 32, 123, 124, 104, 105, 103, 104, 58, 32, 98, 124, 125, 32, 99, 10]⟩ (by decide)
  rw [show veilL (svD 1) (⟨#[97, 32, 123, 124, 104, 105, 103, 104, 58, 32, 98, 124, 125, 32, 99, 10]⟩ : ByteArray).data.toList = _ from al_5] at c7
  clear b8 c6
  go_wp2_with fail
  refine c7.mono ?_
  rintro e w9 ⟨rfl, b9⟩
  have HS9 := Lib.hid (HS8.out.below b9)
  have HB9 := Lib.hid (HB8.out.then b9)
  have c8 := veilD_any HS9.out ⟨#[58, 58, 58, 123, 114, 105, 103, 104, 116, 125, 10, 120, 10, 58, 58, 58, 10, 121]⟩ (by decide)
  rw [show veilL (svD 1) (⟨#[58, 58, 58, 123, 114, 105, 103, 104, 116, 125, 10, 120, 10, 58, 58, 58, 10, 121]⟩ : ByteArray).data.toList = _ from al_6] at c8
  clear b9 c7
  go_wp2_with fail
  refine c8.mono ?_
  rintro e w10 ⟨rfl, b10⟩
  have HB10 := Lib.hid (HB9.out.then b10)
  clear b10 c8
  go_wp2
  go_ret
  exact ⟨rfl, HB10.out⟩

end Go.Proofs.YtkcmhdkhdjmjeaaGreatDoor
