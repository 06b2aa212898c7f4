/-
  Package number: number.
-/
import Derived.Test.YtpifhjdbcdcelaaDoorNuB
namespace Go.Proofs.YtpifhjdbcdcelaaDoor
open Go.RowKit
set_option linter.unusedSimpArgs false
set_option linter.unusedVariables false
set_option maxRecDepth 100000

def NbRel (ds : List (List UInt8)) (w : World) (i : Value) (wr : World) : Prop :=
  ∃ k : Nat, i = .int .i64 k ∧ k ≤ 6 ∧ Lib.IsBuilderF 51 5 w.heap.size w.heap.size (Lib.byteCells (numL (ds.take k))) wr ∧ Below w.heap.size w wr ∧ w.heap.size < wr.heap.size
theorem nb_take (ds : List (List UInt8)) (k : Nat) (h : k < ds.length) : numL (ds.take (k + 1)) = numStep (numL (ds.take k)) ds[k] := by
  rw [List.take_succ_eq_append_getElem h, numL_snoc]
theorem nb_len (ds : List (List UInt8)) (h : ∀ d ∈ ds, d.length ≤ 100) : (numL ds).length ≤ 101 * ds.length := by
  refine snocRec (P := fun ds => (∀ d ∈ ds, d.length ≤ 100) → (numL ds).length ≤ 101 * ds.length) (fun _ => by simp [numL]) (fun l d ih h => ?_) ds h
  have h1 := ih fun x hx => h x (by simp [hx])
  have h2 := h d (by simp)
  have h3 := numStep_len (numL l) d
  rw [numL_snoc]
  simp at *
  omega
set_option maxHeartbeats 4000000 in
theorem number_any (b : Nat) (w : World) (ds : List (List UInt8)) (hd : ds.length = 6) (hs : ∀ d ∈ ds, d.length ≤ 100) (h : w.heap[b]? = some (.cells (strs ds).toArray 38 (0, 0))) :
    Calls Tryd.prog 10 #[.pointer (some ⟨b, 0, none⟩)] w fun e w' => e = .returned (.string ⟨(numL ds).toArray⟩) ∧ Below w.heap.size w w' := by
  have hb := (Array.getElem?_eq_some_iff.1 h).1
  have H := Lib.hid h
  have HSS := Lib.hid hs
  have HDL := Lib.hid hd
  obtain ⟨res, hR⟩ : ∃ res, res = numL ds := ⟨_, rfl⟩
  rw [← hR]
  have HR := Lib.hid hR
  clear h hs hR hd
  go_enter Tryd.func10, Tryd.ntmps10
  go_wp2_with fail
  go_loopw [8] (fun i wr => NbRel ds w i wr) (fun i wr => 6 - (intOf i).toNat)
  case atStart =>
    exact ⟨0, rfl, Nat.zero_le _, Lib.IsBuilderF.of (Lib.fresh_isBuilder 51 5 w), (Below.refl _ w).alloc (Nat.le_refl _) _, (by show _ < (w.heap.push _).size; simp)⟩
  case round =>
    obtain ⟨k, rfl, hk, hI, hbw, hsz⟩ := hrel
    by_cases hp : k < 6
    · have hkl : k < ds.length := by rw [HDL.out]; exact hp
      have hcl : wr.cell? ⟨b, k, none⟩ = some (.string ⟨ds[k].toArray⟩) := by
        have hx := (hbw.block b hb).trans H.out
        rw [cell_of_row wr b k _ _ (0, 0) hx]
        simp [strs, hkl]
      have HT := Lib.hid (nb_take ds k hkl)
      have HL := Lib.hid (nb_len (ds.take k) (fun d hd => HSS.out d (List.mem_of_mem_take hd)))
      have hl2 := HSS.out ds[k] (List.getElem_mem hkl)
      have hsz2 : (⟨ds[k].toArray⟩ : ByteArray).size = ds[k].length := str_size _
      have HI := Lib.hid hI
      have HBW := Lib.hid hbw
      clear hI hbw
      generalize ds[k] = d at *
      by_cases hd0 : d = []
      · subst hd0
        have hst : numL (ds.take (k + 1)) = numL (ds.take k) := by rw [HT.out]; unfold numStep; rw [if_pos rfl]
        have HST := Lib.hid hst
        clear hst
        go_wp2
        go_roundw
        case rel => exact ⟨k + 1, by go_num, by omega, by rw [HST.out]; exact HI.out, HBW.out, hsz⟩
        case measure => simp [intOf]; omega
      · have hac := HL.out
        rw [List.length_take, HDL.out] at hac
        have hlen : (numL (ds.take k)).length ≤ 1000 := by omega
        have hD0 : 0 < (⟨d.toArray⟩ : ByteArray).size := by rw [hsz2]; exact List.length_pos_iff.2 hd0
        have e1 := toList_ne hD0
        have e2 := toList_empty hD0
        have hsc : Lib.strCells (⟨d.toArray⟩ : ByteArray) = Lib.byteCells d := rfl
        have hD2 : (⟨d.toArray⟩ : ByteArray).size ≤ 100 := by rw [hsz2]; exact hl2
        have HT2 : numL (ds.take (k + 1)) = if numL (ds.take k) = [] then d else numL (ds.take k) ++ 46 :: d := by rw [HT.out]; unfold numStep; rw [if_neg hd0]
        generalize hac2 : numL (ds.take k) = acc at *
        generalize (⟨d.toArray⟩ : ByteArray) = D at *
        have cl := Tryd.Builder_Len_f w.heap.size w.heap.size _ _ HI.out
        rw [Lib.byteCells_length] at cl
        have CL := Lib.hid cl
        have HSC := Lib.hid hsc
        have HT3 := Lib.hid HT2
        clear cl hsc HT2 hac HT hd0 hD0 hac2 hsz2 HL
        by_cases ha : acc = []
        · subst ha
          have hr : numL (ds.take (k + 1)) = d := by rw [HT3.out, if_pos rfl]
          have HRR := Lib.hid hr
          have cw := Tryd.Builder_WriteString_k w.heap.size w.heap.size _ D wr HI.out (by simp [Lib.byteCells]; omega) (by omega)
          rw [HSC.out, show Lib.byteCells [] ++ Lib.byteCells d = Lib.byteCells d from rfl, ← HRR.out] at cw
          have CW := Lib.hid cw
          clear hr cw
          go_wp2_with fail
          refine CL.out.mono ?_
          rintro e w1 ⟨rfl, rfl⟩
          go_wp2_with fail
          refine CW.out.mono ?_
          rintro e w2 ⟨rfl, g2, b2, _⟩
          have HG := Lib.hid g2
          have hs2 := b2.size
          have HB2 := Lib.hid (HBW.out.trans b2)
          clear g2 b2
          go_wp2
          go_roundw
          case rel => exact ⟨k + 1, by go_num, by omega, Or.inr HG.out, HB2.out, by omega⟩
          case measure => simp [intOf]; omega
        · have hr : numL (ds.take (k + 1)) = acc ++ 46 :: d := by rw [HT3.out, if_neg ha]
          have HRR := Lib.hid hr
          have hpos : 0 < acc.length := List.length_pos_iff.2 ha
          have cb := Tryd.Builder_WriteByte_k w.heap.size w.heap.size _ 46 wr HI.out (by rw [Lib.byteCells_length]; omega) (by omega)
          have CB := Lib.hid cb
          clear hr cb ha
          go_wp2_with fail
          refine CL.out.mono ?_
          rintro e w1 ⟨rfl, rfl⟩
          go_wp2_with fail
          refine CB.out.mono ?_
          rintro e w2 ⟨rfl, g2, b2, _⟩
          have hs2 := b2.size
          have cw := Tryd.Builder_WriteString_k w.heap.size w.heap.size _ D w2 (Or.inr g2) (by rw [List.length_append, Lib.byteCells_length]; simp; omega) (by omega)
          rw [HSC.out, show Lib.byteCells acc ++ [Value.int IntKind.u8 46] ++ Lib.byteCells d = Lib.byteCells (acc ++ 46 :: d) from by rw [Lib.byteCells_append]; simp [Lib.byteCells], ← HRR.out] at cw
          have CW := Lib.hid cw
          have HB2 := Lib.hid (HBW.out.trans b2)
          clear cw g2 b2
          go_wp2_with fail
          refine CW.out.mono ?_
          rintro e w3 ⟨rfl, g3, b3, _⟩
          have HG := Lib.hid g3
          have hs3 := b3.size
          have HB3 := Lib.hid (HB2.out.trans b3)
          clear g3 b3
          go_wp2
          go_roundw
          case rel => exact ⟨k + 1, by go_num, by omega, Or.inr HG.out, HB3.out, by omega⟩
          case measure => simp [intOf]; omega
    · obtain rfl : k = 6 := by omega
      rw [List.take_of_length_le (by rw [HDL.out]; exact Nat.le_refl _), ← HR.out] at hI
      go_wp2_with fail
      refine (Tryd.Builder_String_any_k w.heap.size w.heap.size _ _ hI (by omega)).mono ?_
      rintro e w1 ⟨rfl, _, b1, _⟩
      go_wp2
      go_ret
      exact ⟨rfl, hbw.trans b1⟩

end Go.Proofs.YtpifhjdbcdcelaaDoor
