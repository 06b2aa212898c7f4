/-
  The statements' book of lists: Texts: the walk.
-/
import Derived.Test.YtggfllbaomfjhaaDoorBookC
namespace Go.Proofs.YtggfllbaomfjhaaDoor
open Go.RowKit
set_option linter.unusedSimpArgs false
set_option linter.unusedVariables false

set_option maxHeartbeats 1000000 in
set_option maxRecDepth 100000 in
theorem texts_any (B b : Nat) (tv uv : Value) (vs us : List Value) (lss : List (List (List UInt8))) (A : Option Addr) (cap : Nat) (ls : List (List UInt8)) (w : World) (hB : B ≤ w.heap.size)
    (h : BookIs w B b tv uv vs us lss) (hown : w.ownsRow B 9 1 (.slice A ls.length cap) ls.length (strs ls)) (hd : ∀ u ∈ vs ++ us, Apart (.slice A ls.length cap) u)
    (hm : vs.length < 250) (hl : ls.length ≤ 1000000) :
    Calls Tryd.prog 15 #[.pointer (some ⟨b, 0, none⟩), .slice A ls.length cap] w fun e w' => e = .returned (.tuple #[]) ∧
      (∃ tv' uv' u, BookIs w' B b tv' uv' (vs ++ [.slice A ls.length cap]) (us ++ [u]) (lss ++ [ls]) ∧ ∀ g, u.ownBlock = some g → w.heap.size ≤ g) ∧ StrKept w w' ∧ Below B w w' := by
  obtain ⟨i0, hi, hz0, hz1, hz2⟩ := info_parts infoSlice
  obtain ⟨At, ct, rfl, hrowt, _⟩ := RowOf.own h.tvs
  have hc0 : w.cell? ⟨b, 0, none⟩ = some (.slice At vs.length ct) := (h.cell 0).trans rfl
  have hbl := h.lt
  have htv := h.tvs
  have H := Lib.hid h
  have HD := Lib.hid hd
  have HO := Lib.hid hown
  clear h hd hown
  go_enter Tryd.func15, Tryd.ntmps15
  go_wp2_with (at_builtin; refine wpList_append_lies _ rfl _ _ 33 rfl B 25 i0 (.slice none 0 0) 1 24 Tryd.underlying33 hi hz0 hz1 hz2 rfl (by decide) _ _ _ rfl (htv.alloc _) ⟨w.heap.size, 0, none⟩ 1 1 [.slice A ls.length cap] rfl rfl ?c1 ?c2 (by omega) ?c3 ?c4 ?c5 _ rfl ?_)
  case c1 =>
    intro j u hj
    match j, hj with
    | 0, hj => simp at hj; subst hj; simp [Addr.add]
  case c2 => intro u hu; simp at hu; subst hu; rfl
  case c3 => unfold maxLen; omega
  case c4 => omega
  case c5 => simp; omega
  · intro g1 cap1 w1 hown1 hgrow hat hlt
    have hblk1 := grow_book H.out.blk htv hgrow
    have hc1 : w1.cell? ⟨b, 0, none⟩ = some (.slice At vs.length ct) := (cell_of_row w1 b 0 _ _ (0, 0) hblk1).trans rfl
    have hf1 : w1.frozen? ⟨b, 0, none⟩ = false := by simp [World.frozen?, hblk1]
    have hblk2 := book_set0 hblk1 (Value.slice (some ⟨g1, 0, none⟩) (vs.length + 1) cap1)
    have hs1 := hgrow.size
    have hsw : (w.alloc (.cells #[.slice A ls.length cap] 25)).heap.size = w.heap.size + 1 := by show (w.heap.push _).size = _; simp
    have hB2 : B ≤ w1.heap.size := by omega
    have hsk : StrKept w (w1.setCell ⟨b, 0, none⟩ (Value.slice (some ⟨g1, 0, none⟩) (vs.length + 1) cap1)) := ((StrKept.alloc w _).trans (StrKept.grown (htv.alloc _) hgrow (by decide))).trans (StrKept.setCell hblk1 (by decide) 0 _)
    have huv2 : (w1.setCell ⟨b, 0, none⟩ (Value.slice (some ⟨g1, 0, none⟩) (vs.length + 1) cap1)).ownsRow B 25 1 uv us.length us :=
      own_set ((H.out.uvs.alloc _).kept hgrow H.out.ne.symm.ne) hblk1 (by decide) 0 _
    have HG := Lib.hid hgrow
    have HW := Lib.hid hown1
    have HA := Lib.hid hat
    have HL := Lib.hid hlt
    clear hblk1 hgrow hown1 hat hlt hs1 hsw
    go_wp2
    obtain ⟨w2, hw2⟩ : ∃ w2, w2 = w1.setCell ⟨b, 0, none⟩ (Value.slice (some ⟨g1, 0, none⟩) (vs.length + 1) cap1) := ⟨_, rfl⟩
    rw [← hw2] at hblk2 hsk huv2 ⊢
    have hB3 : B ≤ w2.heap.size := by rw [hw2]; simp [World.setCell]; omega
    have hc2 := (book_cell hblk2).1
    have hf2 := (book_cell hblk2).2
    have hus : us.length < 250 := by have h1 := H.out.tl.1; have h2 := H.out.ul.1; omega
    obtain ⟨Ar, cr, hlr, hrow, _⟩ := RowOf.own (hsk.row HO.out)
    cases hlr
    have HC := Lib.hid (copy_at B b A cap ls _ uv us w2 hrow hl hblk2 huv2)
    have HW2 := Lib.hid hw2
    clear hblk2 hsk huv2 hrow hw2
    go_region_law (first | (go_simp; go_at_call 22; refine HC.out.mono ?_; rintro e w3 ⟨Au, cu, rfl, hc3, hc5, hp3⟩) | (refine step_append_lies _ rfl (.tmp 24) (.tmp 27) _ rfl B 25 i0 (.slice none 0 0) 1 24 Tryd.underlying33 hi hz0 hz1 hz2 rfl (by decide) uv us.length us rfl (hp3.own.alloc _) ⟨w3.heap.size, 0, none⟩ 1 1 [.slice Au ls.length cu] rfl rfl (cells_one w3 _ _) (one_slice _ _ _) (by omega) (by unfold maxLen; omega) (by omega) (by have hs3 := hp3.below.size; simp; omega) _ rfl ?_; intro g4 cap4 w4 hown4 hgrow4 hat4 hlt4; have hblk4 := grow_book hp3.blk hp3.own hgrow4; have hc4 := (book_cell hblk4).1; have hf4 := (book_cell hblk4).2))
    all_goals
      go_wp2
      go_end0
      exact ⟨rfl, texts_end B b _ uv vs us lss A cap ls w hB H.out HO.out HD.out _ w1 g1 cap1 HW.out HG.out HA.out HL.out w2 HW2.out w3 Au cu hp3 _ w4 g4 cap4 hown4 hgrow4 hat4⟩

end Go.Proofs.YtggfllbaomfjhaaDoor
