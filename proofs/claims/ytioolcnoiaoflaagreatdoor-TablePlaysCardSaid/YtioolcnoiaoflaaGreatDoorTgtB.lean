/-
  Package target: Unescape: what it answers, in plain words.
  Package target: between: what it answers, in plain words.
  Package target: bare, behindBlanks, Dest, Title: what each answers, in plain words.
  Package target: Dest, Title, Inside: what each answers, in plain words.
-/
import Derived.Test.YtioolcnoiaoflaaGreatDoorTgtEp
import Derived.Test.YtioolcnoiaoflaaGreatDoorTgtP
import Derived.OwnWalk
namespace Go.Proofs.YtioolcnoiaoflaaGreatDoor
open Go.RowKit
set_option linter.unusedSimpArgs false
set_option linter.unusedVariables false

/-- What stands when byte k is to be read, and all up to byte t is told. -/
def UnSt (l acc : List UInt8) (k t : Nat) : Prop :=
  (t ≤ k ∧ acc ++ segL l t k ++ unL (l.drop k) = unL l) ∨ (k < t ∧ acc ++ unL (l.drop t) = unL l ∧ (l.getD (t - 1) 0).toNat < 128)
def TgUnRel (s : ByteArray) (w : World) (z : Value) (wr : World) : Prop :=
  ∃ (k t : Nat) (acc : List UInt8), z = .int .i64 t ∧ k ≤ s.size ∧ t ≤ s.size ∧ wr.heap[w.heap.size + 1]? = some (.stringIter s k) ∧ Lib.IsBuilderF 89 5 w.heap.size w.heap.size (Lib.byteCells acc) wr ∧ Below w.heap.size w wr ∧ acc.length ≤ 4 * t ∧ UnSt s.data.toList acc k t
theorem drop_all' (s : ByteArray) (k : Nat) (h : ¬ k < s.size) : s.data.toList.drop k = [] := List.drop_eq_nil_of_le (by simp; omega)
theorem segL_nil (l : List UInt8) (t : Nat) : segL l t t = [] := by simp [segL]
/-- Bytes that stay. -/
theorem UnSt.more {l acc m : List UInt8} {k t d : Nat} (ht : t ≤ k) (h : UnSt l acc k t) (hd : l.drop k = m ++ l.drop (k + d)) (hm : m.length = d) (hu : unL (l.drop k) = m ++ unL (l.drop (k + d))) : UnSt l acc (k + d) t := by
  rcases h with ⟨_, h⟩ | ⟨h, _⟩
  · refine Or.inl ⟨by omega, ?_⟩
    rw [seg_more l m t k d ht hd hm, ← h, hu]
    simp
  · omega
theorem UnSt.at {l acc : List UInt8} {k t : Nat} (ht : t ≤ k) (h : UnSt l acc k t) : acc ++ segL l t k ++ unL (l.drop k) = unL l := by
  rcases h with ⟨_, h⟩ | ⟨h, _⟩
  · exact h
  · omega
/-- Bytes that are told already. -/
theorem UnSt.skip {l acc m : List UInt8} {k t d : Nat} (ht : k < t) (h : UnSt l acc k t) (hd : l.drop k = m ++ l.drop (k + d)) (hm : m.length = d) (hh : d = 1 ∨ ∀ b ∈ m, 128 ≤ b.toNat) (hkl : t ≤ l.length) : UnSt l acc (k + d) t := by
  rcases h with ⟨h, _⟩ | ⟨_, h, hb⟩
  · omega
  · have hle : k + d ≤ t := by
      rcases hh with rfl | hh
      · omega
      · by_cases hc : k + d ≤ t
        · exact hc
        · have h1 : (l.drop k).getD (t - 1 - k) 0 = l.getD (t - 1) 0 := by
            rw [getD_drop, show k + (t - 1 - k) = t - 1 from by omega]
          rw [hd, List.getD_eq_getElem?_getD, List.getElem?_append_left (by omega), List.getElem?_eq_getElem (by omega), Option.getD_some] at h1
          have := hh _ (List.getElem_mem (l := m) (n := t - 1 - k) (by omega))
          rw [h1] at this
          omega
    by_cases he : k + d = t
    · refine Or.inl ⟨by omega, ?_⟩
      rw [he, segL_nil, List.append_nil]
      exact h
    · exact Or.inr ⟨by omega, h, hb⟩
/-- What is written for a backslash, or an entity. -/
theorem UnSt.esc {l acc r : List UInt8} {b : UInt8} {k t : Nat} (ht : t ≤ k) (h : UnSt l acc k t) (hr : l.drop k = b :: r) (h0 : 0 < (escL (b :: r)).2) : UnSt l (acc ++ segL l t k ++ (escL (b :: r)).1) (k + 1) (k + (escL (b :: r)).2) := by
  have h1 := h.at ht
  rw [hr, unL_esc h0, ← hr, List.drop_drop] at h1
  rw [← hr] at h0 ⊢
  have h2 := (escL_ok (l.drop k)).2 h0
  by_cases he : (escL (l.drop k)).2 = 1
  · refine Or.inl ⟨by omega, ?_⟩
    rw [he] at h1 ⊢
    rw [segL_nil, List.append_nil, ← h1]
    simp
  · refine Or.inr ⟨by omega, ?_, ?_⟩
    · rw [← h1]; simp
    · have h3 := h2.2
      rw [getD_drop, show k + ((escL (l.drop k)).2 - 1) = k + (escL (l.drop k)).2 - 1 from by omega] at h3
      exact h3
set_option maxHeartbeats 4000000 in
set_option maxRecDepth 100000 in
theorem unescape_any (s : ByteArray) (w : World) (hn : NamedIs w) (hs : s.size ≤ 1099511627776) :
    Calls Tryz.prog 106 #[.string s] w fun e w' => e = .returned (.string ⟨(unL s.data.toList).toArray⟩) ∧ Below w.heap.size w w' := by
  have HN := Lib.hid hn
  have hll : s.data.toList.length = s.size := by simp
  have HLL := Lib.hid hll
  clear hn hll
  go_enter Tryz.func106, Tryz.ntmps106
  go_wp2_with fail
  go_loopw [4] (fun z wr => TgUnRel s w z wr) (fun _ wr => s.size - wr.iterPos (w.heap.size + 1))
  case atStart =>
    refine ⟨0, 0, [], rfl, Nat.zero_le _, Nat.zero_le _, ?_, (Lib.IsBuilderF.of (Lib.fresh_isBuilder 89 5 w)).alloc _, ((Below.refl _ w).alloc (Nat.le_refl _) _).alloc (by simp) _, by simp, Or.inl ⟨Nat.le_refl _, by simp [segL]⟩⟩
    have := World.iter_heap (w.alloc (.cells #[.pointer none, .slice none 0 0] 89)) s 0
    simpa using this
  case round =>
    obtain ⟨k, t, acc, rfl, hk, htz, hit, hI, hbw, hal, hst⟩ := hrel
    have hsz : w.heap.size + 1 < wr.heap.size := (Array.getElem?_eq_some_iff.1 hit).1
    by_cases hp : k < s.size
    · have hnx : ∀ ty, (Instr.next (.pointer (some ⟨w.heap.size + 1, 0, none⟩)) true ty).run Tryz.prog wr = _ := fun ty => Lib.run_next_any_at wr (w.heap.size + 1) s k ty hit hp
      have hI2 := hI.iterAt hit (k + (Utf8.decode s k).2)
      have hit2 := Lib.iterAt_heap wr (w.heap.size + 1) s k (k + (Utf8.decode s k).2) hit
      have hbw2 := Lib.below_iterAt hbw (k := w.heap.size + 1) (by omega) s (k + (Utf8.decode s k).2)
      have hsz2 : w.heap.size + 1 < (wr.iterAt (w.heap.size + 1) s (k + (Utf8.decode s k).2)).heap.size := by rw [Lib.iterAt_size]; omega
      have Hit := Lib.hid hit
      have HSt := Lib.hid hst
      have HI2 := Lib.hid hI2
      clear hit hbw hI hst hI2
      by_cases hkt : k < t
      · -- told already
        have hgo : 1 ≤ (Utf8.decode s k).2 ∧ k + (Utf8.decode s k).2 ≤ s.size ∧ UnSt s.data.toList acc (k + (Utf8.decode s k).2) t := by
          by_cases ha : s[k].toNat < 128
          · rw [decode_ascii s k hp ha]
            exact ⟨Nat.le_refl _, hp, UnSt.skip (m := [s[k]]) (d := 1) hkt HSt.out (get_list s k hp) rfl (Or.inl rfl) (by rw [HLL.out]; omega)⟩
          · obtain ⟨d1, d2, d3, m, hm1, hm2, hm3⟩ := rune_high s k hp (by omega)
            exact ⟨d1, d2, UnSt.skip hkt HSt.out hm1 hm2 (Or.inr hm3) (by rw [HLL.out]; omega)⟩
        obtain ⟨g1, g2, g3⟩ := hgo
        have HG := Lib.hid g3
        clear g3
        generalize (Utf8.decode s k).1 = r at *
        generalize (Utf8.decode s k).2 = d at *
        go_wp2
        go_roundw
        case rel => exact ⟨k + d, t, acc, rfl, by omega, by omega, hit2, HI2.out, hbw2, by omega, HG.out⟩
        case measure => simp only [World.iterPos, hit2, Hit.out]; omega
      · have hkt2 : t ≤ k := by omega
        by_cases ha : s[k].toNat < 128
        · have hd : Utf8.decode s k = (s[k].toNat, 1) := decode_ascii s k hp ha
          have HI3 := Lib.hid (show Lib.IsBuilderF 89 5 w.heap.size w.heap.size (Lib.byteCells acc) (wr.iterAt (w.heap.size + 1) s (k + 1)) from by have := HI2.out; rw [hd] at this; exact this)
          clear HI2
          rw [hd] at hnx hit2 hbw2 hsz2
          simp only at hnx hit2 hbw2 hsz2
          clear hd
          have HGL := Lib.hid (get_list s k hp)
          have stay : (escL (s[k] :: s.data.toList.drop (k + 1))).2 = 0 → UnSt s.data.toList acc (k + 1) t := by
            intro he
            refine UnSt.more (m := [s[k]]) hkt2 HSt.out (by rw [HGL.out]; rfl) rfl ?_
            rw [HGL.out, unL_byte he]
            rfl
          by_cases hb : s[k].toNat = 92 ∨ s[k].toNat = 38
          · have ce := fun w1 hn => escaped_any (s.extract k s.size) w1 hn (by rw [ext_size]; omega)
            rw [drop_ext, HGL.out] at ce
            have hes := escL_ok (s[k] :: s.data.toList.drop (k + 1))
            have hle : (s[k] :: s.data.toList.drop (k + 1)).length = s.size - k := by
              rw [← HGL.out, List.length_drop, HLL.out]
            rw [hle] at hes
            unfold escRet at ce
            have HEsc := Lib.hid (fun h0 => UnSt.esc hkt2 HSt.out HGL.out h0)
            have hsl := slice_lo s k k rfl (by omega)
            have hsl2 := slice_lohi s t k t k rfl rfl hkt2 (by omega)
            have HSeg := Lib.hid (show (s.extract t k).data.toList = segL s.data.toList t k from seg_list s t k)
            have hzt : (s.extract t k).size = k - t := by rw [ByteArray.size_extract]; omega
            have HStay := Lib.hid stay
            have hn2 := HN.out.below hbw2
            have HCE := Lib.hid (ce _ hn2)
            clear ce stay hle hn2
            generalize escL (s[k] :: s.data.toList.drop (k + 1)) = x at *
            obtain ⟨X, z⟩ := x
            simp only at hes HEsc HStay HCE
            have fb : ((s[k].toNat : Int) != 92) = false ∨ ((s[k].toNat : Int) != 92) = true ∧ ((s[k].toNat : Int) != 38) = false := by
              rcases hb with hb | hb
              · left; simp; omega
              · right; constructor <;> simp <;> omega
            clear hb
            generalize s[k] = b at *
            generalize s.extract k s.size = T at *
            generalize s.extract t k = T2 at *
            obtain ⟨hX, hes2⟩ := hes
            by_cases h0 : 0 < z
            · obtain ⟨hz1, _⟩ := hes2 h0
              have HE2 := Lib.hid (HEsc.out h0)
              clear hes2 HEsc HStay
              rcases fb with f1 | ⟨f1, f2⟩
              all_goals
                go_wp2_with fail
                refine HCE.out.mono ?_
                rintro e w1 ⟨rfl, b1⟩
                have hI4 := Lib.hid (isB_below HI3.out b1)
                have hit3 := Lib.hid ((b1.block _ (by omega)).trans hit2)
                have hbw3 := hbw2.trans (b1.mono (by omega))
                have hs3 := b1.size
                clear hbw2 hit2
                go_wp2_with fail
                refine (Tryz.Builder_WriteString_k w.heap.size w.heap.size _ T2 _ hI4.out (by rw [Lib.byteCells_length]; omega) (by omega)).mono ?_
                rintro e w2 ⟨rfl, g2, b2, k2⟩
                have hit4 := Lib.hid (k2.iter hit3.out (by omega))
                have hs4 := b2.size
                have G2 : Lib.IsBuilderF 89 5 w.heap.size w.heap.size (Lib.byteCells (acc ++ T2.data.toList)) w2 := by rw [Lib.byteCells_append]; exact Or.inr g2
                go_wp2_with fail
                refine (Tryz.Builder_WriteString_k w.heap.size w.heap.size _ ⟨X.toArray⟩ _ G2 (by rw [Lib.byteCells_length, List.length_append, str_size]; simp; omega) (by omega)).mono ?_
                rintro e w3 ⟨rfl, g3, b3, k3⟩
                have hit5 := k3.iter hit4.out (by omega)
                have G3 : Lib.IsBuilderF 89 5 w.heap.size w.heap.size (Lib.byteCells (acc ++ T2.data.toList ++ X)) w3 := by rw [Lib.byteCells_append]; exact Or.inr g3
                have HG3 := Lib.hid G3
                clear G2 G3 g2 g3
                go_wp2
                go_roundw
                case rel => exact ⟨k + 1, k + z, acc ++ T2.data.toList ++ X, by go_num, by omega, by omega, hit5, HG3.out, hbw3.trans (b2.trans b3), by simp only [List.length_append]; simp; omega, by rw [HSeg.out]; exact HE2.out⟩
                case measure => simp only [World.iterPos, hit5, Hit.out]; omega
            · obtain rfl : z = 0 := by omega
              have HS2 := Lib.hid (HStay.out rfl)
              clear hes2 HEsc HStay
              rcases fb with f1 | ⟨f1, f2⟩
              all_goals
                go_wp2_with fail
                refine HCE.out.mono ?_
                rintro e w1 ⟨rfl, b1⟩
                have hI4 := Lib.hid (isB_below HI3.out b1)
                have hit3 := (b1.block _ (by omega)).trans hit2
                have hbw3 := hbw2.trans (b1.mono (by omega))
                clear hbw2 hit2
                go_wp2
                go_roundw
                case rel => exact ⟨k + 1, t, acc, rfl, by omega, by omega, hit3, hI4.out, hbw3, by omega, HS2.out⟩
                case measure => simp only [World.iterPos, hit3, Hit.out]; omega
          · have HS2 := Lib.hid (stay (escL_none (by omega) (by omega)))
            have f1 : ((s[k].toNat : Int) != 92) = true := by simp; omega
            have f2 : ((s[k].toNat : Int) != 38) = true := by simp; omega
            clear stay hb
            generalize s[k] = b at *
            go_wp2
            go_roundw
            case rel => exact ⟨k + 1, t, acc, rfl, by omega, by omega, hit2, HI3.out, hbw2, by omega, HS2.out⟩
            case measure => simp only [World.iterPos, hit2, Hit.out]; omega
        · obtain ⟨d1, d2, d3, m, hm1, hm2, hm3⟩ := rune_high s k hp (by omega)
          have HS2 := Lib.hid (UnSt.more hkt2 HSt.out hm1 hm2 (by rw [hm1]; exact unL_high m _ hm3))
          have f1 : (((Utf8.decode s k).1 : Int) != 92) = true := by simp; omega
          have f2 : (((Utf8.decode s k).1 : Int) != 38) = true := by simp; omega
          clear hm1 hm2 hm3 ha
          generalize (Utf8.decode s k).1 = r at *
          generalize (Utf8.decode s k).2 = d at *
          go_wp2
          go_roundw
          case rel => exact ⟨k + d, t, acc, rfl, by omega, by omega, hit2, HI2.out, hbw2, by omega, HS2.out⟩
          case measure => simp only [World.iterPos, hit2, Hit.out]; omega
    · have hnx : ∀ ty, (Instr.next (.pointer (some ⟨w.heap.size + 1, 0, none⟩)) true ty).run Tryz.prog wr = _ := fun ty => Lib.run_next_end_at wr (w.heap.size + 1) s k ty hit hp
      obtain rfl : k = s.size := by omega
      have HE := Lib.hid (show acc ++ (s.extract t s.size).data.toList = unL s.data.toList from by
        have := hst.at htz
        rw [drop_all' s _ hp, unL_nil, List.append_nil] at this
        rw [seg_list, this])
      have hsl := slice_lo s t t rfl htz
      have hz1 : (s.extract t s.size).size ≤ 1099511627776 := by rw [ByteArray.size_extract]; omega
      have HI2 := Lib.hid hI
      clear hst hI
      generalize s.extract t s.size = T at *
      go_wp2_with fail
      refine (Tryz.Builder_WriteString_k w.heap.size w.heap.size _ T _ HI2.out (by rw [Lib.byteCells_length]; omega) (by have := hbw.size; omega)).mono ?_
      rintro e w2 ⟨rfl, g2, b2, k2⟩
      have hs4 := b2.size
      have G2 : Lib.IsBuilderF 89 5 w.heap.size w.heap.size (Lib.byteCells (acc ++ T.data.toList)) w2 := by rw [Lib.byteCells_append]; exact Or.inr g2
      go_wp2_with fail
      refine (Tryz.Builder_String_any_k w.heap.size w.heap.size _ _ G2 (by omega)).mono ?_
      rintro e w3 ⟨rfl, _, b3, _⟩
      go_wp2
      go_ret
      exact ⟨by rw [← HE.out]; rfl, hbw.trans (b2.trans b3)⟩

end Go.Proofs.YtioolcnoiaoflaaGreatDoor

namespace Go.Proofs.YtioolcnoiaoflaaGreatDoor
open Go.RowKit
set_option linter.unusedSimpArgs false
set_option linter.unusedVariables false

theorem ret_sib {a b : ByteArray} {c d : Int} {e f : Bool} (h : a = b) (k : c = d) (m : e = f) : Ending.returned (.tuple #[.string a, .int .i64 c, .bool e]) = .returned (.tuple #[.string b, .int .i64 d, .bool f]) := by rw [h, k, m]
/-- A text, how many bytes, and whether it is there. -/
def tib (x : List UInt8 × Nat × Bool) : Value := .tuple #[.string ⟨x.1.toArray⟩, .int .i64 x.2.1, .bool x.2.2]
theorem hasB_mem (nv : List UInt8) (b : UInt8) : hasB nv b.toNat = decide (b ∈ nv) := by
  unfold hasB
  rw [Bool.eq_iff_iff, List.any_eq_true, decide_eq_true_iff]
  constructor
  · rintro ⟨x, hx, he⟩
    have : x = b := UInt8.toNat_inj.1 (by have := beq_iff_eq.1 he; omega)
    rwa [← this]
  · intro h
    exact ⟨b, h, by simp⟩
def BtwRel (s : ByteArray) (c : UInt8) (nv : List UInt8) (w : World) (z : Value) (wr : World) : Prop :=
  ∃ (k : Nat) (bh : Bool), z = .bool bh ∧ k ≤ s.size ∧ wr.heap[w.heap.size]? = some (.stringIter s k) ∧ Below w.heap.size w wr ∧ (k = 0 ∧ bh = false ∨ 1 ≤ k ∧ btwGo c nv (s.data.toList.drop k) bh k = btwGo c nv (s.data.toList.drop 1) false 1)
theorem btwL_none {c : UInt8} {nv l : List UInt8} (h : btwGo c nv (l.drop 1) false 1 = none) : tib (btwL c nv l) = .tuple #[.string ByteArray.empty, .int .i64 0, .bool false] := by
  unfold btwL; rw [h]; rfl
theorem btwL_some {c : UInt8} {nv l : List UInt8} {i : Nat} (h : btwGo c nv (l.drop 1) false 1 = some i) : tib (btwL c nv l) = .tuple #[.string ⟨(unL ((l.take i).drop 1)).toArray⟩, .int .i64 ((i : Int) + 1), .bool true] := by
  unfold btwL; rw [h]; rfl
theorem part_str (s : ByteArray) (i j : Nat) : (s.extract i j).data.toList = (s.data.toList.take j).drop i := by
  rw [seg_list, segL, List.drop_take]
set_option maxHeartbeats 4000000 in
set_option maxRecDepth 100000 in
theorem between_any (s : ByteArray) (c : UInt8) (nv : ByteArray) (w : World) (hn : NamedIs w) (h0 : 0 < s.size) (hb0 : s[0].toNat < 128) (hc : c.toNat < 128) (hnv : ∀ b ∈ nv.data.toList, b.toNat < 128) (hz : nv.size ≤ 1000) (hs : s.size ≤ 1099511627776) :
    Calls Tryz.prog 104 #[.string s, .int .i32 c.toNat, .string nv] w fun e w' => e = .returned (tib (btwL c nv.data.toList s.data.toList)) ∧ Below w.heap.size w w' := by
  have HN := Lib.hid hn
  have cc := fun (r : Int) (w : World) (h0 : 0 ≤ r) (h9 : r ≤ 1114111) => containsRune_any nv r w h0 h9 hnv hz
  have HCC := Lib.hid cc
  have HNV := Lib.hid hnv
  clear hn cc hnv
  go_enter Tryz.func104, Tryz.ntmps104
  go_wp2_with fail
  go_loopw [9] (fun z wr => BtwRel s c nv.data.toList w z wr) (fun _ wr => s.size - wr.iterPos w.heap.size)
  case atStart => exact ⟨0, false, rfl, Nat.zero_le _, World.iter_heap w s 0, (Below.refl _ w).alloc (Nat.le_refl _) _, Or.inl ⟨rfl, rfl⟩⟩
  case round =>
    obtain ⟨k, bh, rfl, hk, hit, hbw, hst⟩ := hrel
    have hsz : w.heap.size < wr.heap.size := (Array.getElem?_eq_some_iff.1 hit).1
    by_cases hp : k < s.size
    · have hnx : ∀ ty, (Instr.next (.pointer (some ⟨w.heap.size, 0, none⟩)) true ty).run Tryz.prog wr = _ := fun ty => Lib.run_next_any_at wr w.heap.size s k ty hit hp
      have hit2 := Lib.iterAt_heap wr w.heap.size s k (k + (Utf8.decode s k).2) hit
      have hbw2 := Lib.below_iterAt hbw (k := w.heap.size) (by omega) s (k + (Utf8.decode s k).2)
      have hsz2 : w.heap.size < (wr.iterAt w.heap.size s (k + (Utf8.decode s k).2)).heap.size := by rw [Lib.iterAt_size]; omega
      have Hit := Lib.hid hit
      clear hit hbw
      by_cases hk0 : k = 0
      · subst hk0
        rcases hst with ⟨_, rfl⟩ | ⟨h1, _⟩
        · rw [decode_ascii s 0 hp hb0] at hnx hit2 hbw2
          simp only at hnx hit2 hbw2
          generalize s[0] = b at *
          go_wp2
          go_roundw
          case rel => exact ⟨1, false, rfl, by omega, hit2, hbw2, Or.inr ⟨Nat.le_refl _, rfl⟩⟩
          case measure => simp only [World.iterPos, hit2, Hit.out]; omega
        · omega
      · have hgo : btwGo c nv.data.toList (s.data.toList.drop k) bh k = btwGo c nv.data.toList (s.data.toList.drop 1) false 1 := by
          rcases hst with ⟨h1, _⟩ | ⟨_, h1⟩
          · omega
          · exact h1
        clear hst
        have fk : ((k : Int) == 0) = false := by simp; omega
        by_cases ha : s[k].toNat < 128
        · have hd : Utf8.decode s k = (s[k].toNat, 1) := decode_ascii s k hp ha
          rw [hd] at hnx hit2 hbw2 hsz2
          simp only at hnx hit2 hbw2 hsz2
          clear hd
          rw [get_list s k hp] at hgo
          have hsl := slice_lohi s 1 k 1 k rfl rfl (by omega) (by omega)
          have hpl := part_str s 1 k
          generalize s[k] = b at *
          by_cases hb0' : b.toNat = 0
          · have f0 : ((b.toNat : Int) == 0) = true := by simp; omega
            have HR := Lib.hid (btwL_none (l := s.data.toList) (hgo.symm.trans (btwGo_zero hb0')))
            clear hgo hb0' hpl
            go_wp2
            go_ret3
            exact ⟨by rw [HR.out]; rfl, hbw2⟩
          · have f0 : ((b.toNat : Int) == 0) = false := by simp; omega
            cases bh with
            | true =>
              have HR := Lib.hid ((btwGo_bh hb0').symm.trans hgo)
              clear hgo hb0' hpl
              go_wp2
              go_roundw
              case rel => exact ⟨k + 1, false, rfl, by omega, hit2, hbw2, Or.inr ⟨by omega, HR.out⟩⟩
              case measure => simp only [World.iterPos, hit2, Hit.out]; omega
            | false =>
              by_cases h92 : b.toNat = 92
              · have f1 : ((b.toNat : Int) == 92) = true := by simp; omega
                have HR := Lib.hid ((btwGo_slash h92).symm.trans hgo)
                clear hgo hb0' h92 hpl
                go_wp2
                go_roundw
                case rel => exact ⟨k + 1, true, rfl, by omega, hit2, hbw2, Or.inr ⟨by omega, HR.out⟩⟩
                case measure => simp only [World.iterPos, hit2, Hit.out]; omega
              · have f1 : ((b.toNat : Int) == 92) = false := by simp; omega
                by_cases hbc : b = c
                · have f2 : ((b.toNat : Int) == (c.toNat : Int)) = true := by simp [hbc]
                  have HR := Lib.hid (btwL_some (l := s.data.toList) (hgo.symm.trans (btwGo_shut hb0' h92 hbc)))
                  have hnn := HN.out.below hbw2
                  have cu := fun W hn => unescape_any (s.extract 1 k) W hn (by rw [ByteArray.size_extract]; omega)
                  rw [hpl] at cu
                  have HCU := Lib.hid (cu _ hnn)
                  clear hgo hb0' h92 hpl cu hbc hnn
                  generalize unL ((s.data.toList.take k).drop 1) = U at *
                  generalize s.extract 1 k = T at *
                  go_wp2_with fail
                  refine HCU.out.mono ?_
                  rintro e w1 ⟨rfl, b1⟩
                  have hbw3 := hbw2.trans (b1.mono (by omega))
                  go_wp2
                  go_ret3
                  exact ⟨by rw [HR.out]; rfl, hbw3⟩
                · have f2 : ((b.toNat : Int) == (c.toNat : Int)) = false := by
                    simp only [beq_eq_false_iff_ne, ne_eq]
                    intro e
                    exact hbc (UInt8.toNat_inj.1 (by omega))
                  have c3 := HCC.out b.toNat (wr.iterAt w.heap.size s (k + 1)) (by omega) (by omega)
                  rw [hasB_mem] at c3
                  by_cases hm : b ∈ nv.data.toList
                  · rw [decide_eq_true hm] at c3
                    have HR := Lib.hid (btwL_none (l := s.data.toList) (hgo.symm.trans (btwGo_never hb0' h92 hbc hm)))
                    have HC3 := Lib.hid c3
                    clear hgo hb0' h92 hpl hbc hm c3
                    go_wp2_with fail
                    refine HC3.out.mono ?_
                    rintro e w1 ⟨rfl, b1⟩
                    have hbw3 := hbw2.trans (b1.mono (by omega))
                    go_wp2
                    go_ret3
                    exact ⟨by rw [HR.out]; rfl, hbw3⟩
                  · rw [decide_eq_false hm] at c3
                    have HR := Lib.hid ((btwGo_on hb0' h92 hbc hm).symm.trans hgo)
                    have HC3 := Lib.hid c3
                    clear hgo hb0' h92 hpl hbc hm c3
                    go_wp2_with fail
                    refine HC3.out.mono ?_
                    rintro e w1 ⟨rfl, b1⟩
                    have hbw3 := hbw2.trans (b1.mono (by omega))
                    have hit3 := (b1.block _ hsz2).trans hit2
                    clear hit2 hbw2
                    go_wp2
                    go_roundw
                    case rel => exact ⟨k + 1, false, rfl, by omega, hit3, hbw3, Or.inr ⟨by omega, HR.out⟩⟩
                    case measure => simp only [World.iterPos, hit3, Hit.out]; omega
        · obtain ⟨d1, d2, d3, m, hm1, hm2, hm3⟩ := rune_high s k hp (by omega)
          have hd9 := decode_max s k
          rw [hm1, btwGo_rune c nv.data.toList hc HNV.out m _ bh k hm3 (by omega), hm2] at hgo
          have HR := Lib.hid hgo
          have c3 := HCC.out (Utf8.decode s k).1 (wr.iterAt w.heap.size s (k + (Utf8.decode s k).2)) (by omega) (by omega)
          rw [hasB_high HNV.out (by omega)] at c3
          have HC3 := Lib.hid c3
          have f0 : (((Utf8.decode s k).1 : Int) == 0) = false := by simp; omega
          have f1 : (((Utf8.decode s k).1 : Int) == 92) = false := by simp; omega
          have f2 : (((Utf8.decode s k).1 : Int) == (c.toNat : Int)) = false := by simp; omega
          clear hm1 hm2 hm3 ha hgo c3
          generalize (Utf8.decode s k).1 = r at *
          generalize (Utf8.decode s k).2 = d at *
          cases bh with
          | true =>
            go_wp2
            go_roundw
            case rel => exact ⟨k + d, false, rfl, by omega, hit2, hbw2, Or.inr ⟨by omega, HR.out⟩⟩
            case measure => simp only [World.iterPos, hit2, Hit.out]; omega
          | false =>
            go_wp2_with fail
            refine HC3.out.mono ?_
            rintro e w1 ⟨rfl, b1⟩
            have hbw3 := hbw2.trans (b1.mono (by omega))
            have hit3 := (b1.block _ hsz2).trans hit2
            clear hit2 hbw2
            go_wp2
            go_roundw
            case rel => exact ⟨k + d, false, rfl, by omega, hit3, hbw3, Or.inr ⟨by omega, HR.out⟩⟩
            case measure => simp only [World.iterPos, hit3, Hit.out]; omega
    · have hnx : ∀ ty, (Instr.next (.pointer (some ⟨w.heap.size, 0, none⟩)) true ty).run Tryz.prog wr = _ := fun ty => Lib.run_next_end_at wr w.heap.size s k ty hit hp
      have hgo : btwGo c nv.data.toList (s.data.toList.drop 1) false 1 = none := by
        rcases hst with ⟨h1, _⟩ | ⟨_, h1⟩
        · omega
        · rw [← h1, drop_all' s k hp]; rfl
      have HR := Lib.hid (btwL_none hgo)
      clear hst hgo
      go_wp2
      go_ret3
      exact ⟨by rw [HR.out]; rfl, hbw⟩

end Go.Proofs.YtioolcnoiaoflaaGreatDoor

namespace Go.Proofs.YtioolcnoiaoflaaGreatDoor
open Go.RowKit
set_option linter.unusedSimpArgs false
set_option linter.unusedVariables false
def BareRel (s : ByteArray) (w : World) (q o z : Value) (wr : World) : Prop :=
  ∃ (k n : Nat) (bh : Bool), q = .int .i64 s.size ∧ o = .int .i64 n ∧ z = .bool bh ∧ k ≤ s.size ∧ n ≤ k ∧ wr.heap[w.heap.size]? = some (.stringIter s k) ∧ Below w.heap.size w wr ∧ bareGo (s.data.toList.drop k) n bh k = bareGo s.data.toList 0 false 0
theorem bareL_is {l : List UInt8} {i o : Nat} (h : (i, o) = bareGo l 0 false 0) : bareL l = if 0 < o then 0 else i := by
  unfold bareL; rw [← h]
set_option maxHeartbeats 4000000 in
set_option maxRecDepth 100000 in
theorem bare_any (s : ByteArray) (w : World) (hs : s.size ≤ 1099511627776) :
    Calls Tryz.prog 105 #[.string s] w fun e w' => e = .returned (.int .i64 (bareL s.data.toList)) ∧ Below w.heap.size w w' := by
  go_enter Tryz.func105, Tryz.ntmps105
  go_wp2_with fail
  go_loopw [3, 4, 5] (fun q o z wr => BareRel s w q o z wr) (fun _ _ _ wr => s.size - wr.iterPos w.heap.size)
  case atStart => exact ⟨0, 0, false, rfl, rfl, rfl, Nat.zero_le _, Nat.le_refl _, World.iter_heap w s 0, (Below.refl _ w).alloc (Nat.le_refl _) _, by simp⟩
  case round =>
    obtain ⟨k, n, bh, rfl, rfl, rfl, hk, hnk, hit, hbw, hst⟩ := hrel
    by_cases hp : k < s.size
    · have hnx : ∀ ty, (Instr.next (.pointer (some ⟨w.heap.size, 0, none⟩)) true ty).run Tryz.prog wr = _ := fun ty => Lib.run_next_any_at wr w.heap.size s k ty hit hp
      have hit2 := Lib.iterAt_heap wr w.heap.size s k (k + (Utf8.decode s k).2) hit
      have hbw2 := Lib.below_iterAt hbw (k := w.heap.size) (by omega) s (k + (Utf8.decode s k).2)
      have Hit := Lib.hid hit
      clear hit hbw
      by_cases ha : s[k].toNat < 128
      · have hd : Utf8.decode s k = (s[k].toNat, 1) := decode_ascii s k hp ha
        rw [hd] at hnx hit2 hbw2
        simp only at hnx hit2 hbw2
        clear hd
        rw [get_list s k hp] at hst
        have ch := fun w => tgHidden_any s[k].toNat w
        generalize s[k] = b at *
        by_cases hstop : tgHid b.toNat = true ∨ b.toNat = 41 ∧ n = 0 ∧ bh = false
        · rw [bareGo_stop hstop] at hst
          have HR0 := bareL_is hst
          by_cases hh : tgHid b.toNat = true
          · rw [hh] at ch
            have HC := Lib.hid ch
            by_cases hn0 : 0 < n
            · have HR := Lib.hid (show bareL s.data.toList = 0 from by rw [HR0, if_pos hn0])
              clear HR0 hst hstop hh ch
              go_wp2_with (go_at_call 119; refine (HC.out _).mono ?_; rintro e w' ⟨rfl, rfl⟩)
              go_ret
              exact ⟨by rw [HR.out]; rfl, hbw2⟩
            · have HR := Lib.hid (show bareL s.data.toList = k from by rw [HR0, if_neg hn0])
              obtain rfl : n = 0 := by omega
              clear HR0 hst hstop hh ch
              go_wp2_with (go_at_call 119; refine (HC.out _).mono ?_; rintro e w' ⟨rfl, rfl⟩)
              go_ret
              exact ⟨by rw [HR.out]; rfl, hbw2⟩
          · rcases hstop with h | ⟨h1, rfl, rfl⟩
            · exact absurd h hh
            · rw [Bool.eq_false_iff.2 hh] at ch
              have HC := Lib.hid ch
              have f1 : ((b.toNat : Int) == 41) = true := by simp; omega
              have HR := Lib.hid (show bareL s.data.toList = k from by rw [HR0]; rfl)
              clear HR0 hst hh ch h1
              go_wp2_with (go_at_call 119; refine (HC.out _).mono ?_; rintro e w' ⟨rfl, rfl⟩)
              go_ret
              exact ⟨by rw [HR.out]; rfl, hbw2⟩
        · have hh : tgHid b.toNat = false := by
            rw [← Bool.not_eq_true]; exact fun e => hstop (Or.inl e)
          rw [bareGo_on hh (fun e => hstop (Or.inr e))] at hst
          rw [hh] at ch
          have HC := Lib.hid ch
          cases bh with
          | true =>
            rw [if_pos rfl] at hst
            have HR := Lib.hid hst
            clear hst hstop hh ch
            by_cases h41 : b.toNat = 41
            · have f1 : ((b.toNat : Int) == 41) = true := by simp; omega
              by_cases hn0 : n = 0
              · subst hn0
                clear h41
                go_wp2_with (go_at_call 119; refine (HC.out _).mono ?_; rintro e w' ⟨rfl, rfl⟩)
                go_roundw
                case rel => exact ⟨k + 1, 0, false, rfl, by go_num, rfl, by omega, by omega, hit2, hbw2, HR.out⟩
                case measure => simp only [World.iterPos, hit2, Hit.out]; omega
              · have f2 : ((n : Int) == 0) = false := by simp; omega
                clear h41
                go_wp2_with (go_at_call 119; refine (HC.out _).mono ?_; rintro e w' ⟨rfl, rfl⟩)
                go_roundw
                case rel => exact ⟨k + 1, n, false, rfl, by go_num, rfl, by omega, by omega, hit2, hbw2, HR.out⟩
                case measure => simp only [World.iterPos, hit2, Hit.out]; omega
            · have f1 : ((b.toNat : Int) == 41) = false := by simp; omega
              clear h41
              go_wp2_with (go_at_call 119; refine (HC.out _).mono ?_; rintro e w' ⟨rfl, rfl⟩)
              go_roundw
              case rel => exact ⟨k + 1, n, false, rfl, by go_num, rfl, by omega, by omega, hit2, hbw2, HR.out⟩
              case measure => simp only [World.iterPos, hit2, Hit.out]; omega
          | false =>
            rw [if_neg (by simp)] at hst
            by_cases h92 : b.toNat = 92
            · rw [if_pos h92] at hst
              have HR := Lib.hid hst
              have f1 : ((b.toNat : Int) == 41) = false := by simp; omega
              have f2 : ((b.toNat : Int) == 92) = true := by simp; omega
              clear hst hstop hh ch h92
              go_wp2_with (go_at_call 119; refine (HC.out _).mono ?_; rintro e w' ⟨rfl, rfl⟩)
              go_roundw
              case rel => exact ⟨k + 1, n, true, rfl, by go_num, rfl, by omega, by omega, hit2, hbw2, HR.out⟩
              case measure => simp only [World.iterPos, hit2, Hit.out]; omega
            · rw [if_neg h92] at hst
              have f2 : ((b.toNat : Int) == 92) = false := by simp; omega
              by_cases h40 : b.toNat = 40
              · rw [if_pos h40] at hst
                have HR := Lib.hid hst
                have f1 : ((b.toNat : Int) == 41) = false := by simp; omega
                have f3 : ((b.toNat : Int) == 40) = true := by simp; omega
                clear hst hstop hh ch h92 h40
                go_wp2_with (go_at_call 119; refine (HC.out _).mono ?_; rintro e w' ⟨rfl, rfl⟩)
                go_roundw
                case rel => exact ⟨k + 1, n + 1, false, rfl, by go_num, rfl, by omega, by omega, hit2, hbw2, HR.out⟩
                case measure => simp only [World.iterPos, hit2, Hit.out]; omega
              · rw [if_neg h40] at hst
                have f3 : ((b.toNat : Int) == 40) = false := by simp; omega
                by_cases h41 : b.toNat = 41
                · rw [if_pos h41] at hst
                  have HR := Lib.hid hst
                  have f1 : ((b.toNat : Int) == 41) = true := by simp; omega
                  have hn0 : 0 < n := by
                    by_cases hz : n = 0
                    · exact absurd (Or.inr ⟨h41, hz, rfl⟩) hstop
                    · omega
                  have f4 : ((n : Int) == 0) = false := by simp; omega
                  clear hst hstop hh ch h92 h40 h41
                  go_wp2_with (go_at_call 119; refine (HC.out _).mono ?_; rintro e w' ⟨rfl, rfl⟩)
                  go_roundw
                  case rel => exact ⟨k + 1, n - 1, false, rfl, by go_num, rfl, by omega, by omega, hit2, hbw2, HR.out⟩
                  case measure => simp only [World.iterPos, hit2, Hit.out]; omega
                · rw [if_neg h41] at hst
                  have HR := Lib.hid hst
                  have f1 : ((b.toNat : Int) == 41) = false := by simp; omega
                  clear hst hstop hh ch h92 h40 h41
                  go_wp2_with (go_at_call 119; refine (HC.out _).mono ?_; rintro e w' ⟨rfl, rfl⟩)
                  go_roundw
                  case rel => exact ⟨k + 1, n, false, rfl, by go_num, rfl, by omega, by omega, hit2, hbw2, HR.out⟩
                  case measure => simp only [World.iterPos, hit2, Hit.out]; omega
      · obtain ⟨d1, d2, d3, m, hm1, hm2, hm3⟩ := rune_high s k hp (by omega)
        have hd9 := decode_max s k
        rw [hm1, bareGo_high m _ n k bh hm3 (by omega), hm2] at hst
        have HR := Lib.hid hst
        have ch := fun w => tgHidden_any (Utf8.decode s k).1 w
        rw [hidB_high (by omega)] at ch
        have HC := Lib.hid ch
        have f1 : (((Utf8.decode s k).1 : Int) == 92) = false := by simp; omega
        have f2 : (((Utf8.decode s k).1 : Int) == 40) = false := by simp; omega
        have f3 : (((Utf8.decode s k).1 : Int) == 41) = false := by simp; omega
        clear hm1 hm2 hm3 ha hst ch
        generalize (Utf8.decode s k).1 = r at *
        generalize (Utf8.decode s k).2 = d at *
        cases bh with
        | true =>
          go_wp2_with (go_at_call 119; refine (HC.out _).mono ?_; rintro e w' ⟨rfl, rfl⟩)
          go_roundw
          case rel => exact ⟨k + d, n, false, rfl, rfl, rfl, by omega, by omega, hit2, hbw2, HR.out⟩
          case measure => simp only [World.iterPos, hit2, Hit.out]; omega
        | false =>
          go_wp2_with (go_at_call 119; refine (HC.out _).mono ?_; rintro e w' ⟨rfl, rfl⟩)
          go_roundw
          case rel => exact ⟨k + d, n, false, rfl, rfl, rfl, by omega, by omega, hit2, hbw2, HR.out⟩
          case measure => simp only [World.iterPos, hit2, Hit.out]; omega
    · have hnx : ∀ ty, (Instr.next (.pointer (some ⟨w.heap.size, 0, none⟩)) true ty).run Tryz.prog wr = _ := fun ty => Lib.run_next_end_at wr w.heap.size s k ty hit hp
      obtain rfl : k = s.size := by omega
      rw [drop_all' s _ hp] at hst
      have HR := bareL_is hst
      clear hst
      by_cases hn0 : 0 < n
      · rw [if_pos hn0] at HR
        have HR2 := Lib.hid HR
        clear HR
        go_wp2
        go_ret
        exact ⟨by rw [HR2.out]; rfl, hbw⟩
      · rw [if_neg hn0] at HR
        have HR2 := Lib.hid HR
        obtain rfl : n = 0 := by omega
        clear HR
        go_wp2
        go_ret
        exact ⟨by rw [HR2.out]; rfl, hbw⟩

/-! ### behindBlanks -/

end Go.Proofs.YtioolcnoiaoflaaGreatDoor

namespace Go.Proofs.YtioolcnoiaoflaaGreatDoor
open Go.RowKit
set_option linter.unusedSimpArgs false
set_option linter.unusedVariables false

theorem prefix_first {s : ByteArray} {b : UInt8} (h : Lib.hasPrefix s.data.toList [b] = true) : ∃ h0 : 0 < s.size, s[0] = b := by
  have hz := hasPrefix_size h
  have h0 : 0 < s.size := hz
  refine ⟨h0, ?_⟩
  have hl := get_list s 0 h0
  rw [List.drop_zero] at hl
  rw [hl] at h
  have h2 : [b] <+: s[0] :: s.data.toList.drop (0 + 1) := List.isPrefixOf_iff_prefix.1 h
  exact (List.cons_prefix_cons.1 h2).1.symm
theorem take_str (s : ByteArray) (n : Nat) : (s.extract 0 n).data.toList = s.data.toList.take n := by
  rw [part_str, List.drop_zero]
set_option maxHeartbeats 1000000 in
theorem dest_any (s : ByteArray) (w : World) (hn : NamedIs w) (hs : s.size ≤ 1099511627776) :
    Calls Tryz.prog 79 #[.string s] w fun e w' => e = .returned (tib (destL s.data.toList)) ∧ Below w.heap.size w w' := by
  have p1 := fun w => Tryz.strings_HasPrefix s ⟨#[60]⟩ w
  rw [show (⟨#[60]⟩ : ByteArray).data.toList = [60] from rfl] at p1
  cases h1 : Lib.hasPrefix s.data.toList [60] with
  | true =>
    rw [h1] at p1
    obtain ⟨h0, hb⟩ := prefix_first h1
    have cb := between_any s 62 ⟨#[60, 10]⟩ w hn h0 (by rw [hb]; decide) (by decide) (by decide) (by decide) hs
    rw [show (⟨#[60, 10]⟩ : ByteArray).data.toList = [60, 10] from rfl, show (((62 : UInt8).toNat : Nat) : Int) = 62 from rfl] at cb
    have HR := Lib.hid (show destL s.data.toList = btwL 62 [60, 10] s.data.toList from by unfold destL; rw [if_pos h1])
    have P1 := Lib.hid p1
    clear p1 h1 hb hn
    generalize btwL 62 [60, 10] s.data.toList = x at *
    obtain ⟨X, z, k⟩ := x
    unfold tib at cb
    go_enter Tryz.func79, Tryz.ntmps79
    go_wp2_with fail
    refine (P1.out _).mono ?_
    rintro e w' ⟨rfl, rfl⟩
    go_wp2_with fail
    refine cb.mono ?_
    rintro e w1 ⟨rfl, b1⟩
    go_wp2
    go_ret3
    exact ⟨by rw [HR.out]; rfl, b1⟩
  | false =>
    rw [h1] at p1
    have c1 := bare_any s w hs
    have hle := bareL_le s.data.toList
    rw [show s.data.toList.length = s.size from by simp] at hle
    have hsl := slice_hi s (bareL s.data.toList) (bareL s.data.toList) rfl hle
    have cu := fun W hn => unescape_any (s.extract 0 (bareL s.data.toList)) W hn (by rw [ByteArray.size_extract]; omega)
    rw [take_str] at cu
    have HR := Lib.hid (show destL s.data.toList = (unL (s.data.toList.take (bareL s.data.toList)), bareL s.data.toList, decide (0 < bareL s.data.toList)) from by unfold destL; rw [if_neg (by rw [h1]; simp)])
    have P1 := Lib.hid p1
    have CU := Lib.hid cu
    have HN := Lib.hid hn
    clear p1 h1 cu hn
    generalize unL (s.data.toList.take (bareL s.data.toList)) = X at *
    generalize bareL s.data.toList = n at *
    generalize s.extract 0 n = T at *
    go_enter Tryz.func79, Tryz.ntmps79
    go_wp2_with fail
    refine (P1.out _).mono ?_
    rintro e w' ⟨rfl, rfl⟩
    go_wp2_with fail
    refine c1.mono ?_
    rintro e w1 ⟨rfl, b1⟩
    go_wp2_with fail
    refine (CU.out _ (HN.out.below b1)).mono ?_
    rintro e w2 ⟨rfl, b2⟩
    go_wp2
    go_ret3
    exact ⟨by rw [HR.out]; exact ret_sib rfl rfl (by simp), b1.then b2⟩
set_option maxHeartbeats 1000000 in
theorem title_any (s : ByteArray) (w : World) (hn : NamedIs w) (hs : s.size ≤ 1099511627776) :
    Calls Tryz.prog 107 #[.string s] w fun e w' => e = .returned (tib (titleL s.data.toList)) ∧ Below w.heap.size w w' := by
  have p1 := fun w => Tryz.strings_HasPrefix s ⟨#[34]⟩ w
  have p2 := fun w => Tryz.strings_HasPrefix s ⟨#[39]⟩ w
  have p3 := fun w => Tryz.strings_HasPrefix s ⟨#[40]⟩ w
  rw [show (⟨#[34]⟩ : ByteArray).data.toList = [34] from rfl] at p1
  rw [show (⟨#[39]⟩ : ByteArray).data.toList = [39] from rfl] at p2
  rw [show (⟨#[40]⟩ : ByteArray).data.toList = [40] from rfl] at p3
  cases h1 : Lib.hasPrefix s.data.toList [34] with
  | true =>
    rw [h1] at p1
    obtain ⟨h0, hb⟩ := prefix_first h1
    have cb := between_any s 34 ByteArray.empty w hn h0 (by rw [hb]; decide) (by decide) (by decide) (by decide) hs
    rw [show (ByteArray.empty : ByteArray).data.toList = [] from rfl, show (((34 : UInt8).toNat : Nat) : Int) = 34 from rfl] at cb
    have HR := Lib.hid (show titleL s.data.toList = btwL 34 [] s.data.toList from by unfold titleL; rw [if_pos h1])
    have P1 := Lib.hid p1
    clear p1 p2 p3 h1 hb hn
    generalize btwL 34 [] s.data.toList = x at *
    obtain ⟨X, z, k⟩ := x
    unfold tib at cb
    go_enter Tryz.func107, Tryz.ntmps107
    go_wp2_with fail
    refine (P1.out _).mono ?_
    rintro e w' ⟨rfl, rfl⟩
    go_wp2_with fail
    refine cb.mono ?_
    rintro e w1 ⟨rfl, b1⟩
    go_wp2
    go_ret3
    exact ⟨by rw [HR.out]; rfl, b1⟩
  | false =>
    rw [h1] at p1
    cases h2 : Lib.hasPrefix s.data.toList [39] with
    | true =>
      rw [h2] at p2
      obtain ⟨h0, hb⟩ := prefix_first h2
      have cb := between_any s 39 ByteArray.empty w hn h0 (by rw [hb]; decide) (by decide) (by decide) (by decide) hs
      rw [show (ByteArray.empty : ByteArray).data.toList = [] from rfl, show (((39 : UInt8).toNat : Nat) : Int) = 39 from rfl] at cb
      have HR := Lib.hid (show titleL s.data.toList = btwL 39 [] s.data.toList from by unfold titleL; rw [if_neg (by rw [h1]; simp), if_pos h2])
      have P1 := Lib.hid p1
      have P2 := Lib.hid p2
      clear p1 p2 p3 h1 h2 hb hn
      generalize btwL 39 [] s.data.toList = x at *
      obtain ⟨X, z, k⟩ := x
      unfold tib at cb
      go_enter Tryz.func107, Tryz.ntmps107
      go_wp2_with fail
      refine (P1.out _).mono ?_
      rintro e w' ⟨rfl, rfl⟩
      go_wp2_with fail
      refine (P2.out _).mono ?_
      rintro e w' ⟨rfl, rfl⟩
      go_wp2_with fail
      refine cb.mono ?_
      rintro e w1 ⟨rfl, b1⟩
      go_wp2
      go_ret3
      exact ⟨by rw [HR.out]; rfl, b1⟩
    | false =>
      rw [h2] at p2
      cases h3 : Lib.hasPrefix s.data.toList [40] with
      | true =>
        rw [h3] at p3
        obtain ⟨h0, hb⟩ := prefix_first h3
        have cb := between_any s 41 ⟨#[40]⟩ w hn h0 (by rw [hb]; decide) (by decide) (by decide) (by decide) hs
        rw [show (⟨#[40]⟩ : ByteArray).data.toList = [40] from rfl, show (((41 : UInt8).toNat : Nat) : Int) = 41 from rfl] at cb
        have HR := Lib.hid (show titleL s.data.toList = btwL 41 [40] s.data.toList from by unfold titleL; rw [if_neg (by rw [h1]; simp), if_neg (by rw [h2]; simp), if_pos h3])
        have P1 := Lib.hid p1
        have P2 := Lib.hid p2
        have P3 := Lib.hid p3
        clear p1 p2 p3 h1 h2 h3 hb hn
        generalize btwL 41 [40] s.data.toList = x at *
        obtain ⟨X, z, k⟩ := x
        unfold tib at cb
        go_enter Tryz.func107, Tryz.ntmps107
        go_wp2_with fail
        refine (P1.out _).mono ?_
        rintro e w' ⟨rfl, rfl⟩
        go_wp2_with fail
        refine (P2.out _).mono ?_
        rintro e w' ⟨rfl, rfl⟩
        go_wp2_with fail
        refine (P3.out _).mono ?_
        rintro e w' ⟨rfl, rfl⟩
        go_wp2_with fail
        refine cb.mono ?_
        rintro e w1 ⟨rfl, b1⟩
        go_wp2
        go_ret3
        exact ⟨by rw [HR.out]; rfl, b1⟩
      | false =>
        rw [h3] at p3
        have HR := Lib.hid (show titleL s.data.toList = ([], 0, false) from by unfold titleL; rw [if_neg (by rw [h1]; simp), if_neg (by rw [h2]; simp), if_neg (by rw [h3]; simp)])
        have P1 := Lib.hid p1
        have P2 := Lib.hid p2
        have P3 := Lib.hid p3
        clear p1 p2 p3 h1 h2 h3
        go_enter Tryz.func107, Tryz.ntmps107
        go_wp2_with fail
        refine (P1.out _).mono ?_
        rintro e w' ⟨rfl, rfl⟩
        go_wp2_with fail
        refine (P2.out _).mono ?_
        rintro e w' ⟨rfl, rfl⟩
        go_wp2_with fail
        refine (P3.out _).mono ?_
        rintro e w' ⟨rfl, rfl⟩
        go_wp2
        go_ret3
        exact ⟨by rw [HR.out]; rfl, Below.refl _ _⟩

/-! ### Inside -/

end Go.Proofs.YtioolcnoiaoflaaGreatDoor
