/-
  Package target: Unescape: what it answers, in plain words.
-/
import Derived.Test.YtioolcnoiaoflaaDoorTgtEp
namespace Go.Proofs.YtioolcnoiaoflaaDoor
open Go.RowKit
set_option linter.unusedSimpArgs false
set_option linter.unusedVariables false

/-- What stands when byte k is to be read, and all up to byte t is told. -/
def UnSt (l acc : List UInt8) (k t : Nat) : Prop :=
  (t ≤ k ∧ acc ++ segL l t k ++ unL (l.drop k) = unL l) ∨ (k < t ∧ acc ++ unL (l.drop t) = unL l ∧ (l.getD (t - 1) 0).toNat < 128)
def TgUnRel (s : ByteArray) (w : World) (z : Value) (wr : World) : Prop :=
  ∃ (k t : Nat) (acc : List UInt8), z = .int .i64 t ∧ k ≤ s.size ∧ t ≤ s.size ∧ wr.heap[w.heap.size + 1]? = some (.stringIter s k) ∧ Lib.IsBuilderF 41 5 w.heap.size w.heap.size (Lib.byteCells acc) wr ∧ Below w.heap.size w wr ∧ acc.length ≤ 4 * t ∧ UnSt s.data.toList acc k t
theorem drop_all' (s : ByteArray) (k : Nat) (h : ¬ k < s.size) : s.data.toList.drop k = [] := List.drop_eq_nil_of_le (by simp; omega)
theorem segL_nil (l : List UInt8) (t : Nat) : segL l t t = [] := by simp [segL]
/-- Bytes that stay. -/
theorem UnSt.more {l acc m : List UInt8} {k t d : Nat} (ht : t ≤ k) (h : UnSt l acc k t) (hd : l.drop k = m ++ l.drop (k + d)) (hm : m.length = d) (hu : unL (l.drop k) = m ++ unL (l.drop (k + d))) : UnSt l acc (k + d) t := by
  rcases h with ⟨_, h⟩ | ⟨h, _⟩
  · refine Or.inl ⟨by omega, ?_⟩
    rw [seg_more l m t k d ht hd hm, ← h, hu]
    simp
  · omega
theorem UnSt.at {l acc : List UInt8} {k t : Nat} (ht : t ≤ k) (h : UnSt l acc k t) : acc ++ segL l t k ++ unL (l.drop k) = unL l := by
  rcases h with ⟨_, h⟩ | ⟨h, _⟩
  · exact h
  · omega
/-- Bytes that are told already. -/
theorem UnSt.skip {l acc m : List UInt8} {k t d : Nat} (ht : k < t) (h : UnSt l acc k t) (hd : l.drop k = m ++ l.drop (k + d)) (hm : m.length = d) (hh : d = 1 ∨ ∀ b ∈ m, 128 ≤ b.toNat) (hkl : t ≤ l.length) : UnSt l acc (k + d) t := by
  rcases h with ⟨h, _⟩ | ⟨_, h, hb⟩
  · omega
  · have hle : k + d ≤ t := by
      rcases hh with rfl | hh
      · omega
      · by_cases hc : k + d ≤ t
        · exact hc
        · have h1 : (l.drop k).getD (t - 1 - k) 0 = l.getD (t - 1) 0 := by
            rw [getD_drop, show k + (t - 1 - k) = t - 1 from by omega]
          rw [hd, List.getD_eq_getElem?_getD, List.getElem?_append_left (by omega), List.getElem?_eq_getElem (by omega), Option.getD_some] at h1
          have := hh _ (List.getElem_mem (l := m) (n := t - 1 - k) (by omega))
          rw [h1] at this
          omega
    by_cases he : k + d = t
    · refine Or.inl ⟨by omega, ?_⟩
      rw [he, segL_nil, List.append_nil]
      exact h
    · exact Or.inr ⟨by omega, h, hb⟩
/-- What is written for a backslash, or an entity. -/
theorem UnSt.esc {l acc r : List UInt8} {b : UInt8} {k t : Nat} (ht : t ≤ k) (h : UnSt l acc k t) (hr : l.drop k = b :: r) (h0 : 0 < (escL (b :: r)).2) : UnSt l (acc ++ segL l t k ++ (escL (b :: r)).1) (k + 1) (k + (escL (b :: r)).2) := by
  have h1 := h.at ht
  rw [hr, unL_esc h0, ← hr, List.drop_drop] at h1
  rw [← hr] at h0 ⊢
  have h2 := (escL_ok (l.drop k)).2 h0
  by_cases he : (escL (l.drop k)).2 = 1
  · refine Or.inl ⟨by omega, ?_⟩
    rw [he] at h1 ⊢
    rw [segL_nil, List.append_nil, ← h1]
    simp
  · refine Or.inr ⟨by omega, ?_, ?_⟩
    · rw [← h1]; simp
    · have h3 := h2.2
      rw [getD_drop, show k + ((escL (l.drop k)).2 - 1) = k + (escL (l.drop k)).2 - 1 from by omega] at h3
      exact h3
set_option maxHeartbeats 4000000 in
set_option maxRecDepth 100000 in
theorem unescape_any (s : ByteArray) (w : World) (hn : NamedIs w) (hs : s.size ≤ 1099511627776) :
    Calls Tryd.prog 40 #[.string s] w fun e w' => e = .returned (.string ⟨(unL s.data.toList).toArray⟩) ∧ Below w.heap.size w w' := by
  have HN := Lib.hid hn
  have hll : s.data.toList.length = s.size := by simp
  have HLL := Lib.hid hll
  clear hn hll
  go_enter Tryd.func40, Tryd.ntmps40
  go_wp2_with fail
  go_loopw [4] (fun z wr => TgUnRel s w z wr) (fun _ wr => s.size - wr.iterPos (w.heap.size + 1))
  case atStart =>
    refine ⟨0, 0, [], rfl, Nat.zero_le _, Nat.zero_le _, ?_, (Lib.IsBuilderF.of (Lib.fresh_isBuilder 41 5 w)).alloc _, ((Below.refl _ w).alloc (Nat.le_refl _) _).alloc (by simp) _, by simp, Or.inl ⟨Nat.le_refl _, by simp [segL]⟩⟩
    have := World.iter_heap (w.alloc (.cells #[.pointer none, .slice none 0 0] 41)) s 0
    simpa using this
  case round =>
    obtain ⟨k, t, acc, rfl, hk, htz, hit, hI, hbw, hal, hst⟩ := hrel
    have hsz : w.heap.size + 1 < wr.heap.size := (Array.getElem?_eq_some_iff.1 hit).1
    by_cases hp : k < s.size
    · have hnx : ∀ ty, (Instr.next (.pointer (some ⟨w.heap.size + 1, 0, none⟩)) true ty).run Tryd.prog wr = _ := fun ty => Lib.run_next_any_at wr (w.heap.size + 1) s k ty hit hp
      have hI2 := hI.iterAt hit (k + (Utf8.decode s k).2)
      have hit2 := Lib.iterAt_heap wr (w.heap.size + 1) s k (k + (Utf8.decode s k).2) hit
      have hbw2 := Lib.below_iterAt hbw (k := w.heap.size + 1) (by omega) s (k + (Utf8.decode s k).2)
      have hsz2 : w.heap.size + 1 < (wr.iterAt (w.heap.size + 1) s (k + (Utf8.decode s k).2)).heap.size := by rw [Lib.iterAt_size]; omega
      have Hit := Lib.hid hit
      have HSt := Lib.hid hst
      have HI2 := Lib.hid hI2
      clear hit hbw hI hst hI2
      by_cases hkt : k < t
      · -- told already
        have hgo : 1 ≤ (Utf8.decode s k).2 ∧ k + (Utf8.decode s k).2 ≤ s.size ∧ UnSt s.data.toList acc (k + (Utf8.decode s k).2) t := by
          by_cases ha : s[k].toNat < 128
          · rw [decode_ascii s k hp ha]
            exact ⟨Nat.le_refl _, hp, UnSt.skip (m := [s[k]]) (d := 1) hkt HSt.out (get_list s k hp) rfl (Or.inl rfl) (by rw [HLL.out]; omega)⟩
          · obtain ⟨d1, d2, d3, m, hm1, hm2, hm3⟩ := rune_high s k hp (by omega)
            exact ⟨d1, d2, UnSt.skip hkt HSt.out hm1 hm2 (Or.inr hm3) (by rw [HLL.out]; omega)⟩
        obtain ⟨g1, g2, g3⟩ := hgo
        have HG := Lib.hid g3
        clear g3
        generalize (Utf8.decode s k).1 = r at *
        generalize (Utf8.decode s k).2 = d at *
        go_wp2
        go_roundw
        case rel => exact ⟨k + d, t, acc, rfl, by omega, by omega, hit2, HI2.out, hbw2, by omega, HG.out⟩
        case measure => simp only [World.iterPos, hit2, Hit.out]; omega
      · have hkt2 : t ≤ k := by omega
        by_cases ha : s[k].toNat < 128
        · have hd : Utf8.decode s k = (s[k].toNat, 1) := decode_ascii s k hp ha
          have HI3 := Lib.hid (show Lib.IsBuilderF 41 5 w.heap.size w.heap.size (Lib.byteCells acc) (wr.iterAt (w.heap.size + 1) s (k + 1)) from by have := HI2.out; rw [hd] at this; exact this)
          clear HI2
          rw [hd] at hnx hit2 hbw2 hsz2
          simp only at hnx hit2 hbw2 hsz2
          clear hd
          have HGL := Lib.hid (get_list s k hp)
          have stay : (escL (s[k] :: s.data.toList.drop (k + 1))).2 = 0 → UnSt s.data.toList acc (k + 1) t := by
            intro he
            refine UnSt.more (m := [s[k]]) hkt2 HSt.out (by rw [HGL.out]; rfl) rfl ?_
            rw [HGL.out, unL_byte he]
            rfl
          by_cases hb : s[k].toNat = 92 ∨ s[k].toNat = 38
          · have ce := fun w1 hn => escaped_any (s.extract k s.size) w1 hn (by rw [ext_size]; omega)
            rw [drop_ext, HGL.out] at ce
            have hes := escL_ok (s[k] :: s.data.toList.drop (k + 1))
            have hle : (s[k] :: s.data.toList.drop (k + 1)).length = s.size - k := by
              rw [← HGL.out, List.length_drop, HLL.out]
            rw [hle] at hes
            unfold escRet at ce
            have HEsc := Lib.hid (fun h0 => UnSt.esc hkt2 HSt.out HGL.out h0)
            have hsl := slice_lo s k k rfl (by omega)
            have hsl2 := slice_lohi s t k t k rfl rfl hkt2 (by omega)
            have HSeg := Lib.hid (show (s.extract t k).data.toList = segL s.data.toList t k from seg_list s t k)
            have hzt : (s.extract t k).size = k - t := by rw [ByteArray.size_extract]; omega
            have HStay := Lib.hid stay
            have hn2 := HN.out.below hbw2
            have HCE := Lib.hid (ce _ hn2)
            clear ce stay hle hn2
            generalize escL (s[k] :: s.data.toList.drop (k + 1)) = x at *
            obtain ⟨X, z⟩ := x
            simp only at hes HEsc HStay HCE
            have fb : ((s[k].toNat : Int) != 92) = false ∨ ((s[k].toNat : Int) != 92) = true ∧ ((s[k].toNat : Int) != 38) = false := by
              rcases hb with hb | hb
              · left; simp; omega
              · right; constructor <;> simp <;> omega
            clear hb
            generalize s[k] = b at *
            generalize s.extract k s.size = T at *
            generalize s.extract t k = T2 at *
            obtain ⟨hX, hes2⟩ := hes
            by_cases h0 : 0 < z
            · obtain ⟨hz1, _⟩ := hes2 h0
              have HE2 := Lib.hid (HEsc.out h0)
              clear hes2 HEsc HStay
              rcases fb with f1 | ⟨f1, f2⟩
              all_goals
                go_wp2_with fail
                refine HCE.out.mono ?_
                rintro e w1 ⟨rfl, b1⟩
                have hI4 := Lib.hid (isB_below HI3.out b1)
                have hit3 := Lib.hid ((b1.block _ (by omega)).trans hit2)
                have hbw3 := hbw2.trans (b1.mono (by omega))
                have hs3 := b1.size
                clear hbw2 hit2
                go_wp2_with fail
                refine (Tryd.Builder_WriteString_k w.heap.size w.heap.size _ T2 _ hI4.out (by rw [Lib.byteCells_length]; omega) (by omega)).mono ?_
                rintro e w2 ⟨rfl, g2, b2, k2⟩
                have hit4 := Lib.hid (k2.iter hit3.out (by omega))
                have hs4 := b2.size
                have G2 : Lib.IsBuilderF 41 5 w.heap.size w.heap.size (Lib.byteCells (acc ++ T2.data.toList)) w2 := by rw [Lib.byteCells_append]; exact Or.inr g2
                go_wp2_with fail
                refine (Tryd.Builder_WriteString_k w.heap.size w.heap.size _ ⟨X.toArray⟩ _ G2 (by rw [Lib.byteCells_length, List.length_append, str_size]; simp; omega) (by omega)).mono ?_
                rintro e w3 ⟨rfl, g3, b3, k3⟩
                have hit5 := k3.iter hit4.out (by omega)
                have G3 : Lib.IsBuilderF 41 5 w.heap.size w.heap.size (Lib.byteCells (acc ++ T2.data.toList ++ X)) w3 := by rw [Lib.byteCells_append]; exact Or.inr g3
                have HG3 := Lib.hid G3
                clear G2 G3 g2 g3
                go_wp2
                go_roundw
                case rel => exact ⟨k + 1, k + z, acc ++ T2.data.toList ++ X, by go_num, by omega, by omega, hit5, HG3.out, hbw3.trans (b2.trans b3), by simp only [List.length_append]; simp; omega, by rw [HSeg.out]; exact HE2.out⟩
                case measure => simp only [World.iterPos, hit5, Hit.out]; omega
            · obtain rfl : z = 0 := by omega
              have HS2 := Lib.hid (HStay.out rfl)
              clear hes2 HEsc HStay
              rcases fb with f1 | ⟨f1, f2⟩
              all_goals
                go_wp2_with fail
                refine HCE.out.mono ?_
                rintro e w1 ⟨rfl, b1⟩
                have hI4 := Lib.hid (isB_below HI3.out b1)
                have hit3 := (b1.block _ (by omega)).trans hit2
                have hbw3 := hbw2.trans (b1.mono (by omega))
                clear hbw2 hit2
                go_wp2
                go_roundw
                case rel => exact ⟨k + 1, t, acc, rfl, by omega, by omega, hit3, hI4.out, hbw3, by omega, HS2.out⟩
                case measure => simp only [World.iterPos, hit3, Hit.out]; omega
          · have HS2 := Lib.hid (stay (escL_none (by omega) (by omega)))
            have f1 : ((s[k].toNat : Int) != 92) = true := by simp; omega
            have f2 : ((s[k].toNat : Int) != 38) = true := by simp; omega
            clear stay hb
            generalize s[k] = b at *
            go_wp2
            go_roundw
            case rel => exact ⟨k + 1, t, acc, rfl, by omega, by omega, hit2, HI3.out, hbw2, by omega, HS2.out⟩
            case measure => simp only [World.iterPos, hit2, Hit.out]; omega
        · obtain ⟨d1, d2, d3, m, hm1, hm2, hm3⟩ := rune_high s k hp (by omega)
          have HS2 := Lib.hid (UnSt.more hkt2 HSt.out hm1 hm2 (by rw [hm1]; exact unL_high m _ hm3))
          have f1 : (((Utf8.decode s k).1 : Int) != 92) = true := by simp; omega
          have f2 : (((Utf8.decode s k).1 : Int) != 38) = true := by simp; omega
          clear hm1 hm2 hm3 ha
          generalize (Utf8.decode s k).1 = r at *
          generalize (Utf8.decode s k).2 = d at *
          go_wp2
          go_roundw
          case rel => exact ⟨k + d, t, acc, rfl, by omega, by omega, hit2, HI2.out, hbw2, by omega, HS2.out⟩
          case measure => simp only [World.iterPos, hit2, Hit.out]; omega
    · have hnx : ∀ ty, (Instr.next (.pointer (some ⟨w.heap.size + 1, 0, none⟩)) true ty).run Tryd.prog wr = _ := fun ty => Lib.run_next_end_at wr (w.heap.size + 1) s k ty hit hp
      obtain rfl : k = s.size := by omega
      have HE := Lib.hid (show acc ++ (s.extract t s.size).data.toList = unL s.data.toList from by
        have := hst.at htz
        rw [drop_all' s _ hp, unL_nil, List.append_nil] at this
        rw [seg_list, this])
      have hsl := slice_lo s t t rfl htz
      have hz1 : (s.extract t s.size).size ≤ 1099511627776 := by rw [ByteArray.size_extract]; omega
      have HI2 := Lib.hid hI
      clear hst hI
      generalize s.extract t s.size = T at *
      go_wp2_with fail
      refine (Tryd.Builder_WriteString_k w.heap.size w.heap.size _ T _ HI2.out (by rw [Lib.byteCells_length]; omega) (by have := hbw.size; omega)).mono ?_
      rintro e w2 ⟨rfl, g2, b2, k2⟩
      have hs4 := b2.size
      have G2 : Lib.IsBuilderF 41 5 w.heap.size w.heap.size (Lib.byteCells (acc ++ T.data.toList)) w2 := by rw [Lib.byteCells_append]; exact Or.inr g2
      go_wp2_with fail
      refine (Tryd.Builder_String_any_k w.heap.size w.heap.size _ _ G2 (by omega)).mono ?_
      rintro e w3 ⟨rfl, _, b3, _⟩
      go_wp2
      go_ret
      exact ⟨by rw [← HE.out]; rfl, hbw.trans (b2.trans b3)⟩

end Go.Proofs.YtioolcnoiaoflaaDoor
