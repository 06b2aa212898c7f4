/-
  Package target: plain facts of parts of a text; a Builder stays.
-/
import Derived.Test.YtioolcnoiaoflaaGreatDoorTgtA
namespace Go.Proofs.YtioolcnoiaoflaaGreatDoor
open Go.RowKit
set_option linter.unusedSimpArgs false
set_option linter.unusedVariables false

/-- A builder stays where nothing below is turned. -/
theorem isB_below {T e : TypeId} {B b : Nat} {bs : List Value} {w w' : World} (h : Lib.IsBuilderF T e B b bs w) (hb : Below w.heap.size w w') : Lib.IsBuilderF T e B b bs w' := by
  have go : ∀ p, Lib.BuilderAtF T e B b p bs w → Lib.BuilderAtF T e B b p bs w' := by
    rintro p ⟨hB, v, hbk, hown, hne⟩
    refine ⟨hB, v, (hb.block b (Array.getElem?_eq_some_iff.1 hbk).1).trans hbk, ⟨hown.1, ?_⟩, hne⟩
    rcases hown.2 with hn | ⟨g, cap, cur, fz, hv, hbg, hg, rest⟩
    · exact .inl hn
    · exact .inr ⟨g, cap, cur, fz, hv, hbg, (hb.block g (Array.getElem?_eq_some_iff.1 hg).1).trans hg, rest⟩
  exact h.elim (fun x => .inl (go _ x)) (fun x => .inr (go _ x))
theorem take_snoc (s : ByteArray) (k : Nat) (h : k < s.size) : s.data.toList.take (k + 1) = s.data.toList.take k ++ [s[k]] := by
  rw [List.take_succ_eq_append_getElem (by simpa using h)]
  rfl
theorem cells_snoc (l : List UInt8) (b : UInt8) : Lib.byteCells (l ++ [b]) = Lib.byteCells l ++ [.int .u8 b.toNat] := by
  rw [Lib.byteCells_append]; rfl
def segL (l : List UInt8) (t k : Nat) : List UInt8 := (l.drop t).take (k - t)
theorem take_seg (l : List UInt8) (t k : Nat) (h : t ≤ k) : l.take t ++ segL l t k = l.take k := by
  unfold segL
  rw [show k = t + (k - t) from by omega, List.take_add, show t + (k - t) - t = k - t from by omega]
theorem seg_list (s : ByteArray) (t k : Nat) : (s.extract t k).data.toList = segL s.data.toList t k := by
  rw [ByteArray.data_extract, Array.toList_extract, List.extract_eq_take_drop]; rfl
theorem seg_more (l m : List UInt8) (t k d : Nat) (h : t ≤ k) (hd : l.drop k = m ++ l.drop (k + d)) (hm : m.length = d) : segL l t (k + d) = segL l t k ++ m := by
  have h1 : (l.drop k).take d = m := by rw [hd, List.take_append_of_le_length (by omega), List.take_of_length_le (by omega)]
  unfold segL
  rw [show k + d - t = (k - t) + d from by omega, List.take_add, List.drop_drop, show t + (k - t) = k from by omega, h1]

end Go.Proofs.YtioolcnoiaoflaaGreatDoor
