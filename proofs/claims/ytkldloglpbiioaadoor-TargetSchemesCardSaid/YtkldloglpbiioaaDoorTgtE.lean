/-
  Package target: writeHex, Encode: what each answers, in plain words.
-/
import Derived.Test.YtkldloglpbiioaaDoorTgtA
namespace Go.Proofs.YtkldloglpbiioaaDoor
open Go.RowKit
set_option linter.unusedSimpArgs false
set_option linter.unusedVariables false

/-- A builder stays where nothing below is turned. -/
theorem isB_below {T e : TypeId} {B b : Nat} {bs : List Value} {w w' : World} (h : Lib.IsBuilderF T e B b bs w) (hb : Below w.heap.size w w') : Lib.IsBuilderF T e B b bs w' := by
  have go : ∀ p, Lib.BuilderAtF T e B b p bs w → Lib.BuilderAtF T e B b p bs w' := by
    rintro p ⟨hB, v, hbk, hown, hne⟩
    refine ⟨hB, v, (hb.block b (Array.getElem?_eq_some_iff.1 hbk).1).trans hbk, ⟨hown.1, ?_⟩, hne⟩
    rcases hown.2 with hn | ⟨g, cap, cur, fz, hv, hbg, hg, rest⟩
    · exact .inl hn
    · exact .inr ⟨g, cap, cur, fz, hv, hbg, (hb.block g (Array.getElem?_eq_some_iff.1 hg).1).trans hg, rest⟩
  exact h.elim (fun x => .inl (go _ x)) (fun x => .inr (go _ x))

theorem hex_index : ∀ k : Nat, k < 16 → ∀ w : World, (Instr.index 9 (.string ⟨#[48, 49, 50, 51, 52, 53, 54, 55, 56, 57, 65, 66, 67, 68, 69, 70]⟩) (.int .u8 k)).run Tryd.prog w = .ok (.int .u8 (hexU k).toNat) w
  | 0, _, _ => by kernel_rfl
  | 1, _, _ => by kernel_rfl
  | 2, _, _ => by kernel_rfl
  | 3, _, _ => by kernel_rfl
  | 4, _, _ => by kernel_rfl
  | 5, _, _ => by kernel_rfl
  | 6, _, _ => by kernel_rfl
  | 7, _, _ => by kernel_rfl
  | 8, _, _ => by kernel_rfl
  | 9, _, _ => by kernel_rfl
  | 10, _, _ => by kernel_rfl
  | 11, _, _ => by kernel_rfl
  | 12, _, _ => by kernel_rfl
  | 13, _, _ => by kernel_rfl
  | 14, _, _ => by kernel_rfl
  | 15, _, _ => by kernel_rfl
  | n + 16, h, _ => by omega

theorem hex_at (i : Int) (k : Nat) (e : i = k) (h : k < 16) (w : World) : (Instr.index 9 (.string ⟨#[48, 49, 50, 51, 52, 53, 54, 55, 56, 57, 65, 66, 67, 68, 69, 70]⟩) (.int .u8 i)).run Tryd.prog w = .ok (.int .u8 (hexU k).toNat) w := by
  subst e
  exact hex_index k h w

def pctL (l : List UInt8) : List UInt8 := l.flatMap pctB
theorem pctL_len : ∀ l : List UInt8, (pctL l).length = 3 * l.length
  | [] => rfl
  | b :: l => by
    have := pctL_len l
    rw [show pctL (b :: l) = pctB b ++ pctL l from rfl, List.length_append, this, List.length_cons]
    simp [pctB]
    omega
theorem pctL_snoc (l : List UInt8) (b : UInt8) : pctL (l ++ [b]) = pctL l ++ [37] ++ [hexU (b.toNat / 16)] ++ [hexU (b.toNat % 16)] := by
  simp [pctL, pctB]
theorem take_snoc (s : ByteArray) (k : Nat) (h : k < s.size) : s.data.toList.take (k + 1) = s.data.toList.take k ++ [s[k]] := by
  rw [List.take_succ_eq_append_getElem (by simpa using h)]
  rfl
theorem cells_snoc (l : List UInt8) (b : UInt8) : Lib.byteCells (l ++ [b]) = Lib.byteCells l ++ [.int .u8 b.toNat] := by
  rw [Lib.byteCells_append]; rfl

def HexRel (s : ByteArray) (acc : List UInt8) (w : World) (B b : Nat) (i : Value) (wr : World) : Prop :=
  ∃ k : Nat, i = .int .i64 k ∧ k ≤ s.size ∧ Lib.IsBuilderF 40 5 B b (Lib.byteCells (acc ++ pctL (s.data.toList.take k))) wr ∧ Below B w wr ∧ Lib.OthersKept 5 (some b) w wr

set_option maxHeartbeats 2000000 in
set_option maxRecDepth 100000 in
theorem writeHex_any (B b : Nat) (acc : List UInt8) (s : ByteArray) (w : World) (hI : Lib.IsBuilderF 40 5 B b (Lib.byteCells acc) w) (hB : B ≤ w.heap.size) (ha : acc.length ≤ 35184372088832) (hs : s.size ≤ 17592186044416) :
    Calls Tryd.prog 18 #[.pointer (some ⟨b, 0, none⟩), .string s] w fun e w' => e = .returned (.tuple #[]) ∧ Lib.IsBuilderF 40 5 B b (Lib.byteCells (acc ++ pctL s.data.toList)) w' ∧ Below B w w' ∧ Lib.OthersKept 5 (some b) w w' := by
  have HI := Lib.hid hI
  clear hI
  go_enter Tryd.func18, Tryd.ntmps18
  go_wp2_with fail
  go_loopw [7] (fun i wr => HexRel s acc w B b i wr) (fun i _ => s.size - (intOf i).toNat)
  case atStart => exact ⟨0, rfl, Nat.zero_le _, by simpa [pctL] using HI.out, Below.refl _ _, Lib.OthersKept.refl _ _ _⟩
  case round =>
    obtain ⟨k, rfl, hk, hI, hbw, hok⟩ := hrel
    by_cases hp : k < s.size
    · have hix := index_str s k k rfl hp
      have hT := Lib.hid (take_snoc s k hp)
      have hl : (acc ++ pctL (s.data.toList.take k)).length ≤ acc.length + 3 * k := by
        rw [List.length_append, pctL_len, List.length_take]; omega
      have HA := Lib.hid (show acc ++ pctL (s.data.toList.take (k + 1)) = acc ++ pctL (s.data.toList.take k) ++ [37] ++ [hexU (s[k].toNat / 16)] ++ [hexU (s[k].toNat % 16)] from by rw [hT.out, pctL_snoc]; simp)
      have hx1 := hex_at ((s[k].toNat : Int) / 16) (s[k].toNat / 16) (by omega) (by have := s[k].toNat_lt; omega)
      have hx2 := hex_at ((s[k].toNat : Int) % 16) (s[k].toNat % 16) (by omega) (by omega)
      have hd1 : (s[k].toNat : Int) / 16 < 16 := by have := s[k].toNat_lt; omega
      have hd2 : 0 ≤ (s[k].toNat : Int) / 16 := by omega
      generalize acc ++ pctL (s.data.toList.take k) = A at *
      generalize s[k] = c at *
      generalize hexU (c.toNat / 16) = x1 at *
      generalize hexU (c.toNat % 16) = x2 at *
      have hI1 := hI
      clear hI
      go_wp2_with fail
      refine (Tryd.Builder_WriteByte_k B b _ 37 _ hI1 (by rw [Lib.byteCells_length]; omega) (by have := hbw.size; omega)).mono ?_
      rintro e W1 ⟨rfl, g1, b1, k1⟩
      go_wp2_with fail
      refine (Tryd.Builder_WriteByte_k B b _ x1.toNat _ (Or.inr g1) (by rw [List.length_append, Lib.byteCells_length]; simp; omega) (by have := hbw.size; have := b1.size; omega)).mono ?_
      rintro e W2 ⟨rfl, g2, b2, k2⟩
      go_wp2_with fail
      refine (Tryd.Builder_WriteByte_k B b _ x2.toNat _ (Or.inr g2) (by rw [List.length_append, List.length_append, Lib.byteCells_length]; simp; omega) (by have := hbw.size; have := b1.size; have := b2.size; omega)).mono ?_
      rintro e W3 ⟨rfl, g3, b3, k3⟩
      go_wp2
      go_roundw
      case rel => exact ⟨k + 1, by go_num, by omega, by rw [HA.out, cells_snoc, cells_snoc, cells_snoc]; exact Or.inr g3, hbw.trans (b1.trans (b2.trans b3)), ((hok.trans k1).trans k2).trans k3⟩
      case measure => simp [intOf]; omega
    · obtain rfl : k = s.size := by omega
      rw [List.take_of_length_le (by simp)] at hI
      have HJ := Lib.hid hI
      clear hI
      go_wp2
      go_end0
      exact ⟨rfl, HJ.out, hbw, hok⟩

/-! ### Encode -/
theorem pctL_enc : ∀ m : List UInt8, (∀ b ∈ m, stayB b.toNat = false) → pctL m = encL m
  | [], _ => rfl
  | b :: m, h => by
    have ih := pctL_enc m (fun x hx => h x (by simp [hx]))
    rw [encL_cons, ← ih, show pctL (b :: m) = pctB b ++ pctL m from rfl]
    unfold encB
    rw [if_neg (by rw [h b (by simp)]; simp)]
def segL (l : List UInt8) (t k : Nat) : List UInt8 := (l.drop t).take (k - t)
theorem take_seg (l : List UInt8) (t k : Nat) (h : t ≤ k) : l.take t ++ segL l t k = l.take k := by
  unfold segL
  rw [show k = t + (k - t) from by omega, List.take_add, show t + (k - t) - t = k - t from by omega]
theorem seg_list (s : ByteArray) (t k : Nat) : (s.extract t k).data.toList = segL s.data.toList t k := by
  rw [ByteArray.data_extract, Array.toList_extract, List.extract_eq_take_drop]; rfl
theorem seg_more (l m : List UInt8) (t k d : Nat) (h : t ≤ k) (hd : l.drop k = m ++ l.drop (k + d)) (hm : m.length = d) : segL l t (k + d) = segL l t k ++ m := by
  have h1 : (l.drop k).take d = m := by rw [hd, List.take_append_of_le_length (by omega), List.take_of_length_le (by omega)]
  unfold segL
  rw [show k + d - t = (k - t) + d from by omega, List.take_add, List.drop_drop, show t + (k - t) = k from by omega, h1]
theorem enc_seg {l : List UInt8} {t k : Nat} (h : t ≤ k) (hs : ∀ b ∈ segL l t k, stayB b.toNat = false) : encL (l.take t) ++ pctL (segL l t k) = encL (l.take k) := by
  rw [pctL_enc _ hs, ← encL_append, take_seg l t k h]
def EncRel (s : ByteArray) (w : World) (z : Value) (wr : World) : Prop :=
  ∃ k t : Nat, z = .int .i64 t ∧ t ≤ k ∧ k ≤ s.size ∧ wr.heap[w.heap.size + 1]? = some (.stringIter s k) ∧ Lib.IsBuilderF 40 5 w.heap.size w.heap.size (Lib.byteCells (encL (s.data.toList.take t))) wr ∧ Below w.heap.size w wr ∧ ∀ b ∈ segL s.data.toList t k, stayB b.toNat = false
theorem enc_take_len (s : ByteArray) (t : Nat) (h : t ≤ s.size) : (encL (s.data.toList.take t)).length ≤ 3 * t := by
  have := (encL_len (s.data.toList.take t)).2
  rw [List.length_take] at this
  omega

set_option maxHeartbeats 4000000 in
set_option maxRecDepth 100000 in
theorem encode_any (s : ByteArray) (w : World) (hs : s.size ≤ 1099511627776) :
    Calls Tryd.prog 11 #[.string s] w fun e w' => e = .returned (.string ⟨(encL s.data.toList).toArray⟩) ∧ Below w.heap.size w w' := by
  go_enter Tryd.func11, Tryd.ntmps11
  go_wp2_with fail
  go_loopw [4] (fun z wr => EncRel s w z wr) (fun _ wr => s.size - wr.iterPos (w.heap.size + 1))
  case atStart =>
    refine ⟨0, 0, rfl, Nat.le_refl _, Nat.zero_le _, ?_, (Lib.IsBuilderF.of (Lib.fresh_isBuilder 40 5 w)).alloc _, ((Below.refl _ w).alloc (Nat.le_refl _) _).alloc (by simp) _, by simp [segL]⟩
    have := World.iter_heap (w.alloc (.cells #[.pointer none, .slice none 0 0] 40)) s 0
    simpa using this
  case round =>
    obtain ⟨k, t, rfl, ht, hk, hit, hI, hbw, hseg⟩ := hrel
    have hsz : w.heap.size + 1 < wr.heap.size := (Array.getElem?_eq_some_iff.1 hit).1
    have hel := enc_take_len s t (by omega)
    by_cases hp : k < s.size
    · have hnx : ∀ ty, (Instr.next (.pointer (some ⟨w.heap.size + 1, 0, none⟩)) true ty).run Tryd.prog wr = _ := fun ty => Lib.run_next_any_at wr (w.heap.size + 1) s k ty hit hp
      have hI2 := hI.iterAt hit (k + (Utf8.decode s k).2)
      have hit2 := Lib.iterAt_heap wr (w.heap.size + 1) s k (k + (Utf8.decode s k).2) hit
      have hbw2 := Lib.below_iterAt hbw (k := w.heap.size + 1) (by omega) s (k + (Utf8.decode s k).2)
      have hsz2 : w.heap.size + 1 < (wr.iterAt (w.heap.size + 1) s (k + (Utf8.decode s k).2)).heap.size := by rw [Lib.iterAt_size]; omega
      have Hit := Lib.hid hit
      have HSeg := Lib.hid hseg
      clear hit hbw hI hseg
      by_cases ha : s[k].toNat < 128
      · have hd : Utf8.decode s k = (s[k].toNat, 1) := decode_ascii s k hp ha
        rw [hd] at hnx hit2 hbw2 hI2 hsz2
        simp only at hnx hit2 hbw2 hI2 hsz2
        clear hd
        have HG := Lib.hid (get_list s k hp)
        have cm := mayStay_any s[k].toNat (wr.iterAt (w.heap.size + 1) s (k + 1)) (by omega) (by omega)
        have HI2 := Lib.hid hI2
        have hix := index_str s k k rfl hp
        have hsl := slice_lohi s t k t k rfl rfl ht (by omega)
        cases hm : stayB s[k].toNat with
        | true =>
          rw [hm] at cm
          have HE := Lib.hid (show encL (s.data.toList.take (k + 1)) = encL (s.data.toList.take t) ++ pctL (s.extract t k).data.toList ++ [s[k]] from by
            rw [seg_list, enc_seg ht HSeg.out, take_snoc s k hp, encL_append]
            congr 1
            simp [encL, encB, hm])
          have hz1 : (s.extract t k).size ≤ 17592186044416 := by rw [ByteArray.size_extract]; omega
          have hz2 : (pctL (s.extract t k).data.toList).length ≤ 3298534883328 := by rw [pctL_len]; simp [ByteArray.size_extract]; omega
          have Hsn := Lib.hid (show segL s.data.toList (k + 1) (k + 1) = [] from by simp [segL])
          clear hm hI2
          generalize s[k] = c at *
          generalize encL (s.data.toList.take t) = acc at *
          generalize s.extract t k = T at *
          go_wp2_with fail
          refine cm.mono ?_
          rintro e w1 ⟨rfl, b1⟩
          have hI3 := Lib.hid (isB_below HI2.out b1)
          have hit3 := Lib.hid ((b1.block _ (by omega)).trans hit2)
          have hbw3 := hbw2.trans (b1.mono (by omega))
          have hs3 := b1.size
          clear hbw2
          go_wp2_with fail
          refine (writeHex_any w.heap.size w.heap.size acc T w1 hI3.out (by omega) (by omega) hz1).mono ?_
          rintro e w2 ⟨rfl, hI4, b2, k2⟩
          have hit4 := Lib.hid (k2.iter hit3.out (by omega))
          have hs4 := b2.size
          go_wp2_with fail
          refine (Tryd.Builder_WriteByte_k w.heap.size w.heap.size _ c.toNat _ hI4 (by rw [Lib.byteCells_length, List.length_append]; omega) (by omega)).mono ?_
          rintro e w3 ⟨rfl, g3, b3, k3⟩
          have hit5 := k3.iter hit4.out (by omega)
          clear hit2
          go_wp2
          go_roundw
          case rel => exact ⟨k + 1, k + 1, by go_num, Nat.le_refl _, by omega, hit5, by rw [HE.out, cells_snoc]; exact Or.inr g3, hbw3.trans (b2.trans b3), by rw [Hsn.out]; simp⟩
          case measure => simp only [World.iterPos, hit5, Hit.out]; omega
        | false =>
          rw [hm] at cm
          have HS2 := Lib.hid (show ∀ b ∈ segL s.data.toList t (k + 1), stayB b.toNat = false from by
            rw [seg_more s.data.toList [s[k]] t k 1 ht (by rw [HG.out]; rfl) rfl]
            intro b hb
            rw [List.mem_append] at hb
            rcases hb with hb | hb
            · exact HSeg.out b hb
            · rw [List.mem_singleton.1 hb]; exact hm)
          clear hm hI2
          generalize s[k] = c at *
          go_wp2_with fail
          refine cm.mono ?_
          rintro e w1 ⟨rfl, b1⟩
          have hI3 := Lib.hid (isB_below HI2.out b1)
          have hit3 := (b1.block _ (by omega)).trans hit2
          have hbw3 := hbw2.trans (b1.mono (by omega))
          clear hbw2 hit2
          go_wp2
          go_roundw
          case rel => exact ⟨k + 1, t, rfl, by omega, by omega, hit3, hI3.out, hbw3, HS2.out⟩
          case measure => simp only [World.iterPos, hit3, Hit.out]; omega
      · obtain ⟨d1, d2, d3, m, hm1, hm2, hm3⟩ := rune_high s k hp (by omega)
        have hd9 := decode_max s k
        have cm := mayStay_any (Utf8.decode s k).1 (wr.iterAt (w.heap.size + 1) s (k + (Utf8.decode s k).2)) (by omega) (by omega)
        rw [stayB_high (by omega)] at cm
        have HS2 := Lib.hid (show ∀ b ∈ segL s.data.toList t (k + (Utf8.decode s k).2), stayB b.toNat = false from by
          rw [seg_more s.data.toList m t k _ ht hm1 hm2]
          intro b hb
          rw [List.mem_append] at hb
          rcases hb with hb | hb
          · exact HSeg.out b hb
          · exact stayB_high (by have := hm3 b hb; omega))
        have HI2 := Lib.hid hI2
        clear hm1 hm2 hm3 hI2 ha
        generalize (Utf8.decode s k).1 = r at *
        generalize (Utf8.decode s k).2 = d at *
        go_wp2_with fail
        refine cm.mono ?_
        rintro e w1 ⟨rfl, b1⟩
        have hI3 := Lib.hid (isB_below HI2.out b1)
        have hit3 := (b1.block _ (by omega)).trans hit2
        have hbw3 := hbw2.trans (b1.mono (by omega))
        clear hbw2 hit2
        go_wp2
        go_roundw
        case rel => exact ⟨k + d, t, rfl, by omega, by omega, hit3, hI3.out, hbw3, HS2.out⟩
        case measure => simp only [World.iterPos, hit3, Hit.out]; omega
    · have hnx : ∀ ty, (Instr.next (.pointer (some ⟨w.heap.size + 1, 0, none⟩)) true ty).run Tryd.prog wr = _ := fun ty => Lib.run_next_end_at wr (w.heap.size + 1) s k ty hit hp
      obtain rfl : k = s.size := by omega
      have HE := Lib.hid (show encL s.data.toList = encL (s.data.toList.take t) ++ pctL (s.extract t s.size).data.toList from by
        rw [seg_list, enc_seg ht hseg, List.take_of_length_le (by simp)])
      have hsl := slice_lo s t t rfl ht
      have hz1 : (s.extract t s.size).size ≤ 17592186044416 := by rw [ByteArray.size_extract]; omega
      have HI2 := Lib.hid hI
      clear hseg hI
      generalize encL (s.data.toList.take t) = acc at *
      generalize s.extract t s.size = T at *
      go_wp2_with fail
      refine (writeHex_any w.heap.size w.heap.size acc T wr HI2.out (by omega) (by omega) hz1).mono ?_
      rintro e w2 ⟨rfl, hI4, b2, k2⟩
      have hs4 := b2.size
      go_wp2_with fail
      refine (Tryd.Builder_String_any_k w.heap.size w.heap.size _ _ hI4 (by omega)).mono ?_
      rintro e w3 ⟨rfl, _, b3, _⟩
      go_wp2
      go_ret
      exact ⟨by rw [HE.out]; rfl, hbw.trans (b2.trans b3)⟩

end Go.Proofs.YtkldloglpbiioaaDoor
