/-
  Package slug: Next; the laws' alive.
-/
import Derived.Test.YtpifhjdbcdcelaaDoorSlD
import Derived.Maps.OwnOps
namespace Go.Proofs.YtpifhjdbcdcelaaDoor
open Go.RowKit Go.Maps
set_option linter.unusedSimpArgs false
set_option linter.unusedVariables false
set_option maxRecDepth 100000

theorem slugL_len (s : List UInt8) : (slugL s).length ≤ 40 := (slug_ok s).2.2.2
/-- What stands behind Next. -/
def NextEnd (w w' : World) (B b : Nat) (m : Value) (had : List (List UInt8)) : Prop := (∃ m', AncIs w' B b m' had ∧ ∀ g, m' = .map (some g) → m = .map (some g) ∨ w.heap.size ≤ g) ∧ AncTurn w w' b m ∧ Below B w w'
theorem next_none (s : ByteArray) (w : World) :
    Calls Tryd.prog 12 #[.pointer none, .string s] w fun e w' => e = .returned (.string ⟨#[]⟩) ∧ w = w' := by
  go_enter Tryd.func12, Tryd.ntmps12
  go_wp2
  go_ret
  exact ⟨rfl, rfl⟩

set_option maxHeartbeats 8000000 in
theorem next_any {w : World} {B b : Nat} {m : Value} {had : List (List UInt8)} (hB : B ≤ w.heap.size) (h : AncIs w B b m had) (s : ByteArray) (hs : s.size ≤ 1000000) (hh : had.length ≤ 60) :
    Calls Tryd.prog 12 #[.pointer (some ⟨b, 0, none⟩), .string s] w fun e w' => e = .returned (.string ⟨(slNext had s.data.toList).toArray⟩) ∧ NextEnd w w' B b m (had ++ [slNext had s.data.toList]) := by
  have co := of_any s w hs
  have hid := slugL_len s.data.toList
  have hnx : slNext had s.data.toList = if slugL s.data.toList ∈ had then slNum (slugL s.data.toList) (slLeast had (slugL s.data.toList)) else slugL s.data.toList := rfl
  generalize slNext had s.data.toList = nx at *
  generalize slugL s.data.toList = id at *
  have hidm : id.length ≤ maxLen := by unfold maxLen; omega
  have qe : ∀ (W : World) (r : Option Nat), (binOp .eql 43 (.map r) (.map none)).run Tryd.prog W = .ok (.bool r.isNone) W := fun W r => run_eql_map_nil W _ _ _ r Tryd.underlying43
  have HH := Lib.hid h
  have HNX := Lib.hid hnx
  clear h hnx
  go_enter Tryd.func12, Tryd.ntmps12
  go_wp2_with fail
  refine co.mono ?_
  rintro e w1 ⟨rfl, b1⟩
  have h1 := HH.out.below b1
  have hB1 : B ≤ w1.heap.size := Nat.le_trans hB b1.size
  have ch := has_any h1 id hidm
  have HT1 := Lib.hid (AncTurn.of b1 b m)
  have HBB1 := Lib.hid (b1.mono hB)
  have HS1 := Lib.hid b1.size
  clear b1 co
  by_cases hin : id ∈ had
  · rw [decide_eq_true hin] at ch
    have cn := numbered_any hB1 h1 id hin hh (by omega)
    have hn1 : nx = slNum id (slLeast had id) := by rw [HNX.out, if_pos hin]
    have hf9 := fun (D : SlDU) (hf : FreeIs D had) => hf.num hin hh (by omega : id.length ≤ 900)
    rw [← hn1] at cn
    rw [← hn1] at hf9
    have hnl : nx.length ≤ maxLen := by
      rw [hn1]; unfold slNum maxLen
      have hl := slLeast_is had id hh
      have := (decDigits_ok (n := slLeast had id) (by omega)).2.2
      simp; omega
    have CH := Lib.hid ch
    have CN := Lib.hid cn
    have HF9 := Lib.hid hf9
    have hkey := slKey nx hnl
    clear ch cn hin hn1 hf9 h1
    go_wp2_with fail
    refine CH.out.mono ?_
    rintro e w' ⟨rfl, rfl⟩
    go_wp2_with fail
    refine CN.out.mono ?_
    rintro e w2 ⟨rfl, g, n, D, rfl, hBg, hn, hf, hm2, hbl2, ht2, hb2⟩
    have hlt := (Array.getElem?_eq_some_iff.1 hbl2).1
    have c0 : w2.cell? ⟨b, 0, none⟩ = some (.map (some g)) := (cell_of_row w2 b 0 _ _ (0, 0) hbl2).trans rfl
    have hgb : b ≠ g := slMap_ne hm2 hbl2
    obtain ⟨w5, hup, hm5, hg5⟩ := hm2.update slLaw Tryd.underlying43 (by unfold maxLen; omega) hkey (val := .int .i64 2) (plainElem_int Tryd.underlying3 (by decide))
    have ht5 : AncTurn w2 w5 b (.map (some g)) := ⟨hg5.size, fun x hx _ hxm => hg5.block x hx (fun e => hxm (by injection e with e; rw [e]))⟩
    have hbl5 : w5.heap[b]? = some (.cells #[.map (some g)] 45 (0, 0)) := (hg5.block b hlt (fun e => hgb (by injection e))).trans hbl2
    have hb5 : Below B w2 w5 := (Below.refl B w2).grown hg5 (by have := hb2.size; omega) (fun x e => by injection e with e; omega)
    have HE := Lib.hid (show NextEnd w w5 B b (.map (some g)) (had ++ [nx]) from
      ⟨⟨_, ⟨hbl5, HH.out.base, .inr ⟨g, n + 1 + 1, _, rfl, hBg, hm5, by simp; omega, HF9.out D hf⟩⟩, fun g' e => .inl e⟩, (HT1.out.trans ht2).trans ht5, (HBB1.out.trans hb2).trans hb5⟩)
    clear hm2 hm5 hg5 ht5 hbl5 hb5 hbl2 ht2 hb2 hf HF9 CN
    go_wp2
    go_ret
    exact ⟨rfl, HE.out⟩
  · rw [decide_eq_false hin] at ch
    have hn1 : nx = id := by rw [HNX.out, if_neg hin]
    have hkey := slKey id hidm
    have CH := Lib.hid ch
    have hbl1 := h1.blk
    have hlt := (Array.getElem?_eq_some_iff.1 hbl1).1
    have c0 := h1.cell
    clear ch hin
    subst hn1
    rcases h1.map with ⟨rfl, hD⟩ | ⟨g, n, D, rfl, hBg, hm, hn, hf⟩
    · have hD9 := Lib.hid hD
      clear hD
      have hmm := @run_makeMap Tryd.prog
      have f1 : (w1.alloc (.map #[] 0)).frozen? ⟨b, 0, none⟩ = false := by
        have := (Below.heap_alloc w1 (.map #[] 0) b hlt).trans hbl1
        simp [World.frozen?, this]
      have y2 : (w1.alloc (.map #[] 0)).cell? ⟨b, 0, none⟩ = some (.map none) := cell_of_row _ b 0 _ _ (0, 0) ((Below.heap_alloc w1 (.map #[] 0) b hlt).trans hbl1)
      have hss : (w1.setCell ⟨b, 0, none⟩ (.map (some w1.heap.size))).heap.size = w1.heap.size := by simp [World.setCell]
      have hm4 : SlMap ((w1.setCell ⟨b, 0, none⟩ (.map (some w1.heap.size))).alloc (.map #[] 0)) w1.heap.size 0 (.map []) := by
        have := World.ownsMap_made (w1.setCell ⟨b, 0, none⟩ (.map (some w1.heap.size))) Tryd.prog 9 (plainElem (H := Unit) Tryd.prog 3)
        rwa [hss] at this
      have hbl4 : ((w1.setCell ⟨b, 0, none⟩ (.map (some w1.heap.size))).alloc (.map #[] 0)).heap[b]? = some (.cells #[.map (some w1.heap.size)] 45 (0, 0)) := by
        rw [Below.heap_alloc _ _ b (by rw [hss]; exact hlt)]
        simp [World.setCell, Array.getElem?_modify, hbl1]
      have ht4 : AncTurn w1 ((w1.setCell ⟨b, 0, none⟩ (.map (some w1.heap.size))).alloc (.map #[] 0)) b (.map none) :=
        ⟨by simp only [alloc_size, hss]; omega, fun x hx hxb _ => by rw [Below.heap_alloc _ _ x (by rw [hss]; exact hx), Below.heap_setCell _ _ _ x hxb]⟩
      have hb4 : Below B w1 ((w1.setCell ⟨b, 0, none⟩ (.map (some w1.heap.size))).alloc (.map #[] 0)) := ((Below.refl B w1).setCell h1.base _).alloc (by rw [hss]; exact hB1) _
      obtain ⟨w5, hup, hm5, hg5⟩ := hm4.update slLaw Tryd.underlying43 (by unfold maxLen; omega) hkey (val := .int .i64 2) (plainElem_int Tryd.underlying3 (by decide))
      have hbl5 : w5.heap[b]? = some (.cells #[.map (some w1.heap.size)] 45 (0, 0)) := (hg5.block b (by simp only [alloc_size, hss]; omega) (fun e => by injection e with e; omega)).trans hbl4
      have ht5 : AncTurn w1 w5 b (.map none) := ⟨Nat.le_trans ht4.size hg5.size, fun x hx hxb hxm => (hg5.block x (by simp only [alloc_size, hss]; omega) (fun e => by injection e with e; omega)).trans (ht4.rest x hx hxb hxm)⟩
      have hb5 : Below B w1 w5 := hb4.grown hg5 (by simp only [alloc_size, hss]; omega) (fun x e => by injection e with e; omega)
      have HE := Lib.hid (show NextEnd w w5 B b (.map none) (had ++ [nx]) from
        ⟨⟨_, ⟨hbl5, HH.out.base, .inr ⟨w1.heap.size, 0 + 1, _, rfl, hB1, hm5, by simp; omega, by rw [hD9.out]; exact FreeIs.nil.new (by omega)⟩⟩, fun g' e => .inr (by injection e with e; injection e with e; have := HS1.out; omega)⟩, HT1.out.trans ht5, HBB1.out.trans hb5⟩)
      clear h1 hbl1 hm4 hbl4 ht4 hb4 hm5 hg5 hbl5 ht5 hb5 hss
      go_wp2_with fail
      refine CH.out.mono ?_
      rintro e w' ⟨rfl, rfl⟩
      go_wp2
      go_ret
      exact ⟨rfl, HE.out⟩
    · obtain ⟨w5, hup, hm5, hg5⟩ := hm.update slLaw Tryd.underlying43 (by unfold maxLen; omega) hkey (val := .int .i64 2) (plainElem_int Tryd.underlying3 (by decide))
      have hgb : b ≠ g := slMap_ne hm hbl1
      have ht5 : AncTurn w1 w5 b (.map (some g)) := ⟨hg5.size, fun x hx _ hxm => hg5.block x hx (fun e => hxm (by injection e with e; rw [e]))⟩
      have hbl5 : w5.heap[b]? = some (.cells #[.map (some g)] 45 (0, 0)) := (hg5.block b hlt (fun e => hgb (by injection e))).trans hbl1
      have hb5 : Below B w1 w5 := (Below.refl B w1).grown hg5 hB1 (fun x e => by injection e with e; omega)
      have HE := Lib.hid (show NextEnd w w5 B b (.map (some g)) (had ++ [nx]) from
        ⟨⟨_, ⟨hbl5, HH.out.base, .inr ⟨g, n + 1, _, rfl, hBg, hm5, by simp; omega, hf.new (by omega)⟩⟩, fun g' e => .inl e⟩, HT1.out.trans ht5, HBB1.out.trans hb5⟩)
      clear h1 hm hm5 hg5 ht5 hbl5 hb5 hbl1 hf
      go_wp2_with fail
      refine CH.out.mono ?_
      rintro e w' ⟨rfl, rfl⟩
      go_wp2
      go_ret
      exact ⟨rfl, HE.out⟩

end Go.Proofs.YtpifhjdbcdcelaaDoor
