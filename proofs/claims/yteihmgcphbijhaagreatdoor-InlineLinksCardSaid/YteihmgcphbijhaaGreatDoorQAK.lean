/- Texts joined: TgtB MaxL DnL DnA RefA TbE TgtAb TgtFb TgtGi. -/
import Derived.Test.YteihmgcphbijhaaGreatDoorQAJ
import Derived.Test.YteihmgcphbijhaaGreatDoorQAB
import Derived.OwnWalk
import Derived.Test.YteihmgcphbijhaaGreatDoorQAA
import Derived.Test.YteihmgcphbijhaaGreatDoorQAI
import Derived.Test.YteihmgcphbijhaaGreatDoorQAD
import Derived.Test.YteihmgcphbijhaaGreatDoorQAC
import Derived.Laws.ResultCell
import Derived.Test.YteihmgcphbijhaaGreatDoorQAE
import Derived.Maps.OwnSet
import Derived.DeepKeys4
import Derived.Lib.SliceRun
import Derived.BigQuiet
import Derived.BigRegion
import Derived.Maps.OwnOps
import Derived.Deep.AppendLies
import Derived.WalkSpells
import Derived.Lib.MinMax
import Derived.Laws.AppendOwnNone
import Derived.Deep.RegionLaw
import Derived.Lib.OthersKept
namespace Go.Proofs.YteihmgcphbijhaaGreatDoor
open Go.RowKit
set_option linter.unusedSimpArgs false
set_option linter.unusedVariables false
/-- What stands when byte k is to be read, and all up to byte t is told. -/
def UnSt (l acc : List UInt8) (k t : Nat) : Prop :=
  (t ≤ k ∧ acc ++ segL l t k ++ unL (l.drop k) = unL l) ∨ (k < t ∧ acc ++ unL (l.drop t) = unL l ∧ (l.getD (t - 1) 0).toNat < 128)
def TgUnRel (s : ByteArray) (w : World) (z : Value) (wr : World) : Prop :=
  ∃ (k t : Nat) (acc : List UInt8), z = .int .i64 t ∧ k ≤ s.size ∧ t ≤ s.size ∧ wr.heap[w.heap.size + 1]? = some (.stringIter s k) ∧ Lib.IsBuilderF 39 5 w.heap.size w.heap.size (Lib.byteCells acc) wr ∧ Below w.heap.size w wr ∧ acc.length ≤ 4 * t ∧ UnSt s.data.toList acc k t
theorem drop_all' (s : ByteArray) (k : Nat) (h : ¬ k < s.size) : s.data.toList.drop k = [] := List.drop_eq_nil_of_le (by simp; omega)
theorem segL_nil (l : List UInt8) (t : Nat) : segL l t t = [] := by simp [segL]
/-- Bytes that stay. -/
theorem UnSt.more {l acc m : List UInt8} {k t d : Nat} (ht : t ≤ k) (h : UnSt l acc k t) (hd : l.drop k = m ++ l.drop (k + d)) (hm : m.length = d) (hu : unL (l.drop k) = m ++ unL (l.drop (k + d))) : UnSt l acc (k + d) t := by
  rcases h with ⟨_, h⟩ | ⟨h, _⟩
  · refine Or.inl ⟨by omega, ?_⟩
    rw [seg_more l m t k d ht hd hm, ← h, hu]
    simp
  · omega
theorem UnSt.at {l acc : List UInt8} {k t : Nat} (ht : t ≤ k) (h : UnSt l acc k t) : acc ++ segL l t k ++ unL (l.drop k) = unL l := by
  rcases h with ⟨_, h⟩ | ⟨h, _⟩
  · exact h
  · omega
/-- Bytes that are told already. -/
theorem UnSt.skip {l acc m : List UInt8} {k t d : Nat} (ht : k < t) (h : UnSt l acc k t) (hd : l.drop k = m ++ l.drop (k + d)) (hm : m.length = d) (hh : d = 1 ∨ ∀ b ∈ m, 128 ≤ b.toNat) (hkl : t ≤ l.length) : UnSt l acc (k + d) t := by
  rcases h with ⟨h, _⟩ | ⟨_, h, hb⟩
  · omega
  · have hle : k + d ≤ t := by
      rcases hh with rfl | hh
      · omega
      · by_cases hc : k + d ≤ t
        · exact hc
        · have h1 : (l.drop k).getD (t - 1 - k) 0 = l.getD (t - 1) 0 := by
            rw [getD_drop, show k + (t - 1 - k) = t - 1 from by omega]
          rw [hd, List.getD_eq_getElem?_getD, List.getElem?_append_left (by omega), List.getElem?_eq_getElem (by omega), Option.getD_some] at h1
          have := hh _ (List.getElem_mem (l := m) (n := t - 1 - k) (by omega))
          rw [h1] at this
          omega
    by_cases he : k + d = t
    · refine Or.inl ⟨by omega, ?_⟩
      rw [he, segL_nil, List.append_nil]
      exact h
    · exact Or.inr ⟨by omega, h, hb⟩
/-- What is written for a backslash, or an entity. -/
theorem UnSt.esc {l acc r : List UInt8} {b : UInt8} {k t : Nat} (ht : t ≤ k) (h : UnSt l acc k t) (hr : l.drop k = b :: r) (h0 : 0 < (escL (b :: r)).2) : UnSt l (acc ++ segL l t k ++ (escL (b :: r)).1) (k + 1) (k + (escL (b :: r)).2) := by
  have h1 := h.at ht
  rw [hr, unL_esc h0, ← hr, List.drop_drop] at h1
  rw [← hr] at h0 ⊢
  have h2 := (escL_ok (l.drop k)).2 h0
  by_cases he : (escL (l.drop k)).2 = 1
  · refine Or.inl ⟨by omega, ?_⟩
    rw [he] at h1 ⊢
    rw [segL_nil, List.append_nil, ← h1]
    simp
  · refine Or.inr ⟨by omega, ?_, ?_⟩
    · rw [← h1]; simp
    · have h3 := h2.2
      rw [getD_drop, show k + ((escL (l.drop k)).2 - 1) = k + (escL (l.drop k)).2 - 1 from by omega] at h3
      exact h3
set_option maxHeartbeats 4000000 in
set_option maxRecDepth 100000 in
theorem unescape_any (s : ByteArray) (w : World) (hn : NamedIs w) (hs : s.size ≤ 1099511627776) :
    Calls Tryz.prog 164 #[.string s] w fun e w' => e = .returned (.string ⟨(unL s.data.toList).toArray⟩) ∧ Below w.heap.size w w' := by
  have HN := Lib.hid hn
  have hll : s.data.toList.length = s.size := by simp
  have HLL := Lib.hid hll
  clear hn hll
  go_enter Tryz.func164, Tryz.ntmps164
  go_wp2_with fail
  go_loopw [4] (fun z wr => TgUnRel s w z wr) (fun _ wr => s.size - wr.iterPos (w.heap.size + 1))
  case atStart =>
    refine ⟨0, 0, [], rfl, Nat.zero_le _, Nat.zero_le _, ?_, (Lib.IsBuilderF.of (Lib.fresh_isBuilder 39 5 w)).alloc _, ((Below.refl _ w).alloc (Nat.le_refl _) _).alloc (by simp) _, by simp, Or.inl ⟨Nat.le_refl _, by simp [segL]⟩⟩
    have := World.iter_heap (w.alloc (.cells #[.pointer none, .slice none 0 0] 39)) s 0
    simpa using this
  case round =>
    obtain ⟨k, t, acc, rfl, hk, htz, hit, hI, hbw, hal, hst⟩ := hrel
    have hsz : w.heap.size + 1 < wr.heap.size := (Array.getElem?_eq_some_iff.1 hit).1
    by_cases hp : k < s.size
    · have hnx : ∀ ty, (Instr.next (.pointer (some ⟨w.heap.size + 1, 0, none⟩)) true ty).run Tryz.prog wr = _ := fun ty => Lib.run_next_any_at wr (w.heap.size + 1) s k ty hit hp
      have hI2 := hI.iterAt hit (k + (Utf8.decode s k).2)
      have hit2 := Lib.iterAt_heap wr (w.heap.size + 1) s k (k + (Utf8.decode s k).2) hit
      have hbw2 := Lib.below_iterAt hbw (k := w.heap.size + 1) (by omega) s (k + (Utf8.decode s k).2)
      have hsz2 : w.heap.size + 1 < (wr.iterAt (w.heap.size + 1) s (k + (Utf8.decode s k).2)).heap.size := by rw [Lib.iterAt_size]; omega
      have Hit := Lib.hid hit
      have HSt := Lib.hid hst
      have HI2 := Lib.hid hI2
      clear hit hbw hI hst hI2
      by_cases hkt : k < t
      · -- told already
        have hgo : 1 ≤ (Utf8.decode s k).2 ∧ k + (Utf8.decode s k).2 ≤ s.size ∧ UnSt s.data.toList acc (k + (Utf8.decode s k).2) t := by
          by_cases ha : s[k].toNat < 128
          · rw [decode_ascii s k hp ha]
            exact ⟨Nat.le_refl _, hp, UnSt.skip (m := [s[k]]) (d := 1) hkt HSt.out (get_list s k hp) rfl (Or.inl rfl) (by rw [HLL.out]; omega)⟩
          · obtain ⟨d1, d2, d3, m, hm1, hm2, hm3⟩ := rune_high s k hp (by omega)
            exact ⟨d1, d2, UnSt.skip hkt HSt.out hm1 hm2 (Or.inr hm3) (by rw [HLL.out]; omega)⟩
        obtain ⟨g1, g2, g3⟩ := hgo
        have HG := Lib.hid g3
        clear g3
        generalize (Utf8.decode s k).1 = r at *
        generalize (Utf8.decode s k).2 = d at *
        go_wp2
        go_roundw
        case rel => exact ⟨k + d, t, acc, rfl, by omega, by omega, hit2, HI2.out, hbw2, by omega, HG.out⟩
        case measure => simp only [World.iterPos, hit2, Hit.out]; omega
      · have hkt2 : t ≤ k := by omega
        by_cases ha : s[k].toNat < 128
        · have hd : Utf8.decode s k = (s[k].toNat, 1) := decode_ascii s k hp ha
          have HI3 := Lib.hid (show Lib.IsBuilderF 39 5 w.heap.size w.heap.size (Lib.byteCells acc) (wr.iterAt (w.heap.size + 1) s (k + 1)) from by have := HI2.out; rw [hd] at this; exact this)
          clear HI2
          rw [hd] at hnx hit2 hbw2 hsz2
          simp only at hnx hit2 hbw2 hsz2
          clear hd
          have HGL := Lib.hid (get_list s k hp)
          have stay : (escL (s[k] :: s.data.toList.drop (k + 1))).2 = 0 → UnSt s.data.toList acc (k + 1) t := by
            intro he
            refine UnSt.more (m := [s[k]]) hkt2 HSt.out (by rw [HGL.out]; rfl) rfl ?_
            rw [HGL.out, unL_byte he]
            rfl
          by_cases hb : s[k].toNat = 92 ∨ s[k].toNat = 38
          · have ce := fun w1 hn => escaped_any (s.extract k s.size) w1 hn (by rw [ext_size]; omega)
            rw [drop_ext, HGL.out] at ce
            have hes := escL_ok (s[k] :: s.data.toList.drop (k + 1))
            have hle : (s[k] :: s.data.toList.drop (k + 1)).length = s.size - k := by
              rw [← HGL.out, List.length_drop, HLL.out]
            rw [hle] at hes
            unfold escRet at ce
            have HEsc := Lib.hid (fun h0 => UnSt.esc hkt2 HSt.out HGL.out h0)
            have hsl := slice_lo s k k rfl (by omega)
            have hsl2 := slice_lohi s t k t k rfl rfl hkt2 (by omega)
            have HSeg := Lib.hid (show (s.extract t k).data.toList = segL s.data.toList t k from seg_list s t k)
            have hzt : (s.extract t k).size = k - t := by rw [ByteArray.size_extract]; omega
            have HStay := Lib.hid stay
            have hn2 := HN.out.below hbw2
            have HCE := Lib.hid (ce _ hn2)
            clear ce stay hle hn2
            generalize escL (s[k] :: s.data.toList.drop (k + 1)) = x at *
            obtain ⟨X, z⟩ := x
            simp only at hes HEsc HStay HCE
            have fb : ((s[k].toNat : Int) != 92) = false ∨ ((s[k].toNat : Int) != 92) = true ∧ ((s[k].toNat : Int) != 38) = false := by
              rcases hb with hb | hb
              · left; simp; omega
              · right; constructor <;> simp <;> omega
            clear hb
            generalize s[k] = b at *
            generalize s.extract k s.size = T at *
            generalize s.extract t k = T2 at *
            obtain ⟨hX, hes2⟩ := hes
            by_cases h0 : 0 < z
            · obtain ⟨hz1, _⟩ := hes2 h0
              have HE2 := Lib.hid (HEsc.out h0)
              clear hes2 HEsc HStay
              rcases fb with f1 | ⟨f1, f2⟩
              all_goals
                go_wp2_with fail
                refine HCE.out.mono ?_
                rintro e w1 ⟨rfl, b1⟩
                have hI4 := Lib.hid (isB_below HI3.out b1)
                have hit3 := Lib.hid ((b1.block _ (by omega)).trans hit2)
                have hbw3 := hbw2.trans (b1.mono (by omega))
                have hs3 := b1.size
                clear hbw2 hit2
                go_wp2_with fail
                refine (Tryz.Builder_WriteString_k w.heap.size w.heap.size _ T2 _ hI4.out (by rw [Lib.byteCells_length]; omega) (by omega)).mono ?_
                rintro e w2 ⟨rfl, g2, b2, k2⟩
                have hit4 := Lib.hid (k2.iter hit3.out (by omega))
                have hs4 := b2.size
                have G2 : Lib.IsBuilderF 39 5 w.heap.size w.heap.size (Lib.byteCells (acc ++ T2.data.toList)) w2 := by rw [Lib.byteCells_append]; exact Or.inr g2
                go_wp2_with fail
                refine (Tryz.Builder_WriteString_k w.heap.size w.heap.size _ ⟨X.toArray⟩ _ G2 (by rw [Lib.byteCells_length, List.length_append, str_size]; simp; omega) (by omega)).mono ?_
                rintro e w3 ⟨rfl, g3, b3, k3⟩
                have hit5 := k3.iter hit4.out (by omega)
                have G3 : Lib.IsBuilderF 39 5 w.heap.size w.heap.size (Lib.byteCells (acc ++ T2.data.toList ++ X)) w3 := by rw [Lib.byteCells_append]; exact Or.inr g3
                have HG3 := Lib.hid G3
                clear G2 G3 g2 g3
                go_wp2
                go_roundw
                case rel => exact ⟨k + 1, k + z, acc ++ T2.data.toList ++ X, by go_num, by omega, by omega, hit5, HG3.out, hbw3.trans (b2.trans b3), by simp only [List.length_append]; simp; omega, by rw [HSeg.out]; exact HE2.out⟩
                case measure => simp only [World.iterPos, hit5, Hit.out]; omega
            · obtain rfl : z = 0 := by omega
              have HS2 := Lib.hid (HStay.out rfl)
              clear hes2 HEsc HStay
              rcases fb with f1 | ⟨f1, f2⟩
              all_goals
                go_wp2_with fail
                refine HCE.out.mono ?_
                rintro e w1 ⟨rfl, b1⟩
                have hI4 := Lib.hid (isB_below HI3.out b1)
                have hit3 := (b1.block _ (by omega)).trans hit2
                have hbw3 := hbw2.trans (b1.mono (by omega))
                clear hbw2 hit2
                go_wp2
                go_roundw
                case rel => exact ⟨k + 1, t, acc, rfl, by omega, by omega, hit3, hI4.out, hbw3, by omega, HS2.out⟩
                case measure => simp only [World.iterPos, hit3, Hit.out]; omega
          · have HS2 := Lib.hid (stay (escL_none (by omega) (by omega)))
            have f1 : ((s[k].toNat : Int) != 92) = true := by simp; omega
            have f2 : ((s[k].toNat : Int) != 38) = true := by simp; omega
            clear stay hb
            generalize s[k] = b at *
            go_wp2
            go_roundw
            case rel => exact ⟨k + 1, t, acc, rfl, by omega, by omega, hit2, HI3.out, hbw2, by omega, HS2.out⟩
            case measure => simp only [World.iterPos, hit2, Hit.out]; omega
        · obtain ⟨d1, d2, d3, m, hm1, hm2, hm3⟩ := rune_high s k hp (by omega)
          have HS2 := Lib.hid (UnSt.more hkt2 HSt.out hm1 hm2 (by rw [hm1]; exact unL_high m _ hm3))
          have f1 : (((Utf8.decode s k).1 : Int) != 92) = true := by simp; omega
          have f2 : (((Utf8.decode s k).1 : Int) != 38) = true := by simp; omega
          clear hm1 hm2 hm3 ha
          generalize (Utf8.decode s k).1 = r at *
          generalize (Utf8.decode s k).2 = d at *
          go_wp2
          go_roundw
          case rel => exact ⟨k + d, t, acc, rfl, by omega, by omega, hit2, HI2.out, hbw2, by omega, HS2.out⟩
          case measure => simp only [World.iterPos, hit2, Hit.out]; omega
    · have hnx : ∀ ty, (Instr.next (.pointer (some ⟨w.heap.size + 1, 0, none⟩)) true ty).run Tryz.prog wr = _ := fun ty => Lib.run_next_end_at wr (w.heap.size + 1) s k ty hit hp
      obtain rfl : k = s.size := by omega
      have HE := Lib.hid (show acc ++ (s.extract t s.size).data.toList = unL s.data.toList from by
        have := hst.at htz
        rw [drop_all' s _ hp, unL_nil, List.append_nil] at this
        rw [seg_list, this])
      have hsl := slice_lo s t t rfl htz
      have hz1 : (s.extract t s.size).size ≤ 1099511627776 := by rw [ByteArray.size_extract]; omega
      have HI2 := Lib.hid hI
      clear hst hI
      generalize s.extract t s.size = T at *
      go_wp2_with fail
      refine (Tryz.Builder_WriteString_k w.heap.size w.heap.size _ T _ HI2.out (by rw [Lib.byteCells_length]; omega) (by have := hbw.size; omega)).mono ?_
      rintro e w2 ⟨rfl, g2, b2, k2⟩
      have hs4 := b2.size
      have G2 : Lib.IsBuilderF 39 5 w.heap.size w.heap.size (Lib.byteCells (acc ++ T.data.toList)) w2 := by rw [Lib.byteCells_append]; exact Or.inr g2
      go_wp2_with fail
      refine (Tryz.Builder_String_any_k w.heap.size w.heap.size _ _ G2 (by omega)).mono ?_
      rintro e w3 ⟨rfl, _, b3, _⟩
      go_wp2
      go_ret
      exact ⟨by rw [← HE.out]; rfl, hbw.trans (b2.trans b3)⟩
end Go.Proofs.YteihmgcphbijhaaGreatDoor
namespace Go.Proofs.YteihmgcphbijhaaGreatDoor
open Go.RowKit
set_option linter.unusedSimpArgs false
set_option linter.unusedVariables false
theorem ret_sib {a b : ByteArray} {c d : Int} {e f : Bool} (h : a = b) (k : c = d) (m : e = f) : Ending.returned (.tuple #[.string a, .int .i64 c, .bool e]) = .returned (.tuple #[.string b, .int .i64 d, .bool f]) := by rw [h, k, m]
/-- A text, how many bytes, and whether it is there. -/
def tib (x : List UInt8 × Nat × Bool) : Value := .tuple #[.string ⟨x.1.toArray⟩, .int .i64 x.2.1, .bool x.2.2]
theorem hasB_mem (nv : List UInt8) (b : UInt8) : hasB nv b.toNat = decide (b ∈ nv) := by
  unfold hasB
  rw [Bool.eq_iff_iff, List.any_eq_true, decide_eq_true_iff]
  constructor
  · rintro ⟨x, hx, he⟩
    have : x = b := UInt8.toNat_inj.1 (by have := beq_iff_eq.1 he; omega)
    rwa [← this]
  · intro h
    exact ⟨b, h, by simp⟩
def BtwRel (s : ByteArray) (c : UInt8) (nv : List UInt8) (w : World) (z : Value) (wr : World) : Prop :=
  ∃ (k : Nat) (bh : Bool), z = .bool bh ∧ k ≤ s.size ∧ wr.heap[w.heap.size]? = some (.stringIter s k) ∧ Below w.heap.size w wr ∧ (k = 0 ∧ bh = false ∨ 1 ≤ k ∧ btwGo c nv (s.data.toList.drop k) bh k = btwGo c nv (s.data.toList.drop 1) false 1)
theorem btwL_none {c : UInt8} {nv l : List UInt8} (h : btwGo c nv (l.drop 1) false 1 = none) : tib (btwL c nv l) = .tuple #[.string ByteArray.empty, .int .i64 0, .bool false] := by
  unfold btwL; rw [h]; rfl
theorem btwL_some {c : UInt8} {nv l : List UInt8} {i : Nat} (h : btwGo c nv (l.drop 1) false 1 = some i) : tib (btwL c nv l) = .tuple #[.string ⟨(unL ((l.take i).drop 1)).toArray⟩, .int .i64 ((i : Int) + 1), .bool true] := by
  unfold btwL; rw [h]; rfl
theorem part_str (s : ByteArray) (i j : Nat) : (s.extract i j).data.toList = (s.data.toList.take j).drop i := by
  rw [seg_list, segL, List.drop_take]
set_option maxHeartbeats 4000000 in
set_option maxRecDepth 100000 in
theorem between_any (s : ByteArray) (c : UInt8) (nv : ByteArray) (w : World) (hn : NamedIs w) (h0 : 0 < s.size) (hb0 : s[0].toNat < 128) (hc : c.toNat < 128) (hnv : ∀ b ∈ nv.data.toList, b.toNat < 128) (hz : nv.size ≤ 1000) (hs : s.size ≤ 1099511627776) :
    Calls Tryz.prog 162 #[.string s, .int .i32 c.toNat, .string nv] w fun e w' => e = .returned (tib (btwL c nv.data.toList s.data.toList)) ∧ Below w.heap.size w w' := by
  have HN := Lib.hid hn
  have cc := fun (r : Int) (w : World) (h0 : 0 ≤ r) (h9 : r ≤ 1114111) => containsRune_any nv r w h0 h9 hnv hz
  have HCC := Lib.hid cc
  have HNV := Lib.hid hnv
  clear hn cc hnv
  go_enter Tryz.func162, Tryz.ntmps162
  go_wp2_with fail
  go_loopw [9] (fun z wr => BtwRel s c nv.data.toList w z wr) (fun _ wr => s.size - wr.iterPos w.heap.size)
  case atStart => exact ⟨0, false, rfl, Nat.zero_le _, World.iter_heap w s 0, (Below.refl _ w).alloc (Nat.le_refl _) _, Or.inl ⟨rfl, rfl⟩⟩
  case round =>
    obtain ⟨k, bh, rfl, hk, hit, hbw, hst⟩ := hrel
    have hsz : w.heap.size < wr.heap.size := (Array.getElem?_eq_some_iff.1 hit).1
    by_cases hp : k < s.size
    · have hnx : ∀ ty, (Instr.next (.pointer (some ⟨w.heap.size, 0, none⟩)) true ty).run Tryz.prog wr = _ := fun ty => Lib.run_next_any_at wr w.heap.size s k ty hit hp
      have hit2 := Lib.iterAt_heap wr w.heap.size s k (k + (Utf8.decode s k).2) hit
      have hbw2 := Lib.below_iterAt hbw (k := w.heap.size) (by omega) s (k + (Utf8.decode s k).2)
      have hsz2 : w.heap.size < (wr.iterAt w.heap.size s (k + (Utf8.decode s k).2)).heap.size := by rw [Lib.iterAt_size]; omega
      have Hit := Lib.hid hit
      clear hit hbw
      by_cases hk0 : k = 0
      · subst hk0
        rcases hst with ⟨_, rfl⟩ | ⟨h1, _⟩
        · rw [decode_ascii s 0 hp hb0] at hnx hit2 hbw2
          simp only at hnx hit2 hbw2
          generalize s[0] = b at *
          go_wp2
          go_roundw
          case rel => exact ⟨1, false, rfl, by omega, hit2, hbw2, Or.inr ⟨Nat.le_refl _, rfl⟩⟩
          case measure => simp only [World.iterPos, hit2, Hit.out]; omega
        · omega
      · have hgo : btwGo c nv.data.toList (s.data.toList.drop k) bh k = btwGo c nv.data.toList (s.data.toList.drop 1) false 1 := by
          rcases hst with ⟨h1, _⟩ | ⟨_, h1⟩
          · omega
          · exact h1
        clear hst
        have fk : ((k : Int) == 0) = false := by simp; omega
        by_cases ha : s[k].toNat < 128
        · have hd : Utf8.decode s k = (s[k].toNat, 1) := decode_ascii s k hp ha
          rw [hd] at hnx hit2 hbw2 hsz2
          simp only at hnx hit2 hbw2 hsz2
          clear hd
          rw [get_list s k hp] at hgo
          have hsl := slice_lohi s 1 k 1 k rfl rfl (by omega) (by omega)
          have hpl := part_str s 1 k
          generalize s[k] = b at *
          by_cases hb0' : b.toNat = 0
          · have f0 : ((b.toNat : Int) == 0) = true := by simp; omega
            have HR := Lib.hid (btwL_none (l := s.data.toList) (hgo.symm.trans (btwGo_zero hb0')))
            clear hgo hb0' hpl
            go_wp2
            go_ret3
            exact ⟨by rw [HR.out]; rfl, hbw2⟩
          · have f0 : ((b.toNat : Int) == 0) = false := by simp; omega
            cases bh with
            | true =>
              have HR := Lib.hid ((btwGo_bh hb0').symm.trans hgo)
              clear hgo hb0' hpl
              go_wp2
              go_roundw
              case rel => exact ⟨k + 1, false, rfl, by omega, hit2, hbw2, Or.inr ⟨by omega, HR.out⟩⟩
              case measure => simp only [World.iterPos, hit2, Hit.out]; omega
            | false =>
              by_cases h92 : b.toNat = 92
              · have f1 : ((b.toNat : Int) == 92) = true := by simp; omega
                have HR := Lib.hid ((btwGo_slash h92).symm.trans hgo)
                clear hgo hb0' h92 hpl
                go_wp2
                go_roundw
                case rel => exact ⟨k + 1, true, rfl, by omega, hit2, hbw2, Or.inr ⟨by omega, HR.out⟩⟩
                case measure => simp only [World.iterPos, hit2, Hit.out]; omega
              · have f1 : ((b.toNat : Int) == 92) = false := by simp; omega
                by_cases hbc : b = c
                · have f2 : ((b.toNat : Int) == (c.toNat : Int)) = true := by simp [hbc]
                  have HR := Lib.hid (btwL_some (l := s.data.toList) (hgo.symm.trans (btwGo_shut hb0' h92 hbc)))
                  have hnn := HN.out.below hbw2
                  have cu := fun W hn => unescape_any (s.extract 1 k) W hn (by rw [ByteArray.size_extract]; omega)
                  rw [hpl] at cu
                  have HCU := Lib.hid (cu _ hnn)
                  clear hgo hb0' h92 hpl cu hbc hnn
                  generalize unL ((s.data.toList.take k).drop 1) = U at *
                  generalize s.extract 1 k = T at *
                  go_wp2_with fail
                  refine HCU.out.mono ?_
                  rintro e w1 ⟨rfl, b1⟩
                  have hbw3 := hbw2.trans (b1.mono (by omega))
                  go_wp2
                  go_ret3
                  exact ⟨by rw [HR.out]; rfl, hbw3⟩
                · have f2 : ((b.toNat : Int) == (c.toNat : Int)) = false := by
                    simp only [beq_eq_false_iff_ne, ne_eq]
                    intro e
                    exact hbc (UInt8.toNat_inj.1 (by omega))
                  have c3 := HCC.out b.toNat (wr.iterAt w.heap.size s (k + 1)) (by omega) (by omega)
                  rw [hasB_mem] at c3
                  by_cases hm : b ∈ nv.data.toList
                  · rw [decide_eq_true hm] at c3
                    have HR := Lib.hid (btwL_none (l := s.data.toList) (hgo.symm.trans (btwGo_never hb0' h92 hbc hm)))
                    have HC3 := Lib.hid c3
                    clear hgo hb0' h92 hpl hbc hm c3
                    go_wp2_with fail
                    refine HC3.out.mono ?_
                    rintro e w1 ⟨rfl, b1⟩
                    have hbw3 := hbw2.trans (b1.mono (by omega))
                    go_wp2
                    go_ret3
                    exact ⟨by rw [HR.out]; rfl, hbw3⟩
                  · rw [decide_eq_false hm] at c3
                    have HR := Lib.hid ((btwGo_on hb0' h92 hbc hm).symm.trans hgo)
                    have HC3 := Lib.hid c3
                    clear hgo hb0' h92 hpl hbc hm c3
                    go_wp2_with fail
                    refine HC3.out.mono ?_
                    rintro e w1 ⟨rfl, b1⟩
                    have hbw3 := hbw2.trans (b1.mono (by omega))
                    have hit3 := (b1.block _ hsz2).trans hit2
                    clear hit2 hbw2
                    go_wp2
                    go_roundw
                    case rel => exact ⟨k + 1, false, rfl, by omega, hit3, hbw3, Or.inr ⟨by omega, HR.out⟩⟩
                    case measure => simp only [World.iterPos, hit3, Hit.out]; omega
        · obtain ⟨d1, d2, d3, m, hm1, hm2, hm3⟩ := rune_high s k hp (by omega)
          have hd9 := decode_max s k
          rw [hm1, btwGo_rune c nv.data.toList hc HNV.out m _ bh k hm3 (by omega), hm2] at hgo
          have HR := Lib.hid hgo
          have c3 := HCC.out (Utf8.decode s k).1 (wr.iterAt w.heap.size s (k + (Utf8.decode s k).2)) (by omega) (by omega)
          rw [hasB_high HNV.out (by omega)] at c3
          have HC3 := Lib.hid c3
          have f0 : (((Utf8.decode s k).1 : Int) == 0) = false := by simp; omega
          have f1 : (((Utf8.decode s k).1 : Int) == 92) = false := by simp; omega
          have f2 : (((Utf8.decode s k).1 : Int) == (c.toNat : Int)) = false := by simp; omega
          clear hm1 hm2 hm3 ha hgo c3
          generalize (Utf8.decode s k).1 = r at *
          generalize (Utf8.decode s k).2 = d at *
          cases bh with
          | true =>
            go_wp2
            go_roundw
            case rel => exact ⟨k + d, false, rfl, by omega, hit2, hbw2, Or.inr ⟨by omega, HR.out⟩⟩
            case measure => simp only [World.iterPos, hit2, Hit.out]; omega
          | false =>
            go_wp2_with fail
            refine HC3.out.mono ?_
            rintro e w1 ⟨rfl, b1⟩
            have hbw3 := hbw2.trans (b1.mono (by omega))
            have hit3 := (b1.block _ hsz2).trans hit2
            clear hit2 hbw2
            go_wp2
            go_roundw
            case rel => exact ⟨k + d, false, rfl, by omega, hit3, hbw3, Or.inr ⟨by omega, HR.out⟩⟩
            case measure => simp only [World.iterPos, hit3, Hit.out]; omega
    · have hnx : ∀ ty, (Instr.next (.pointer (some ⟨w.heap.size, 0, none⟩)) true ty).run Tryz.prog wr = _ := fun ty => Lib.run_next_end_at wr w.heap.size s k ty hit hp
      have hgo : btwGo c nv.data.toList (s.data.toList.drop 1) false 1 = none := by
        rcases hst with ⟨h1, _⟩ | ⟨_, h1⟩
        · omega
        · rw [← h1, drop_all' s k hp]; rfl
      have HR := Lib.hid (btwL_none hgo)
      clear hst hgo
      go_wp2
      go_ret3
      exact ⟨by rw [HR.out]; rfl, hbw⟩
end Go.Proofs.YteihmgcphbijhaaGreatDoor
namespace Go.Proofs.YteihmgcphbijhaaGreatDoor
open Go.RowKit
set_option linter.unusedSimpArgs false
set_option linter.unusedVariables false
def BareRel (s : ByteArray) (w : World) (q o z : Value) (wr : World) : Prop :=
  ∃ (k n : Nat) (bh : Bool), q = .int .i64 s.size ∧ o = .int .i64 n ∧ z = .bool bh ∧ k ≤ s.size ∧ n ≤ k ∧ wr.heap[w.heap.size]? = some (.stringIter s k) ∧ Below w.heap.size w wr ∧ bareGo (s.data.toList.drop k) n bh k = bareGo s.data.toList 0 false 0
theorem bareL_is {l : List UInt8} {i o : Nat} (h : (i, o) = bareGo l 0 false 0) : bareL l = if 0 < o then 0 else i := by
  unfold bareL; rw [← h]
set_option maxHeartbeats 4000000 in
set_option maxRecDepth 100000 in
theorem bare_any (s : ByteArray) (w : World) (hs : s.size ≤ 1099511627776) :
    Calls Tryz.prog 163 #[.string s] w fun e w' => e = .returned (.int .i64 (bareL s.data.toList)) ∧ Below w.heap.size w w' := by
  go_enter Tryz.func163, Tryz.ntmps163
  go_wp2_with fail
  go_loopw [3, 4, 5] (fun q o z wr => BareRel s w q o z wr) (fun _ _ _ wr => s.size - wr.iterPos w.heap.size)
  case atStart => exact ⟨0, 0, false, rfl, rfl, rfl, Nat.zero_le _, Nat.le_refl _, World.iter_heap w s 0, (Below.refl _ w).alloc (Nat.le_refl _) _, by simp⟩
  case round =>
    obtain ⟨k, n, bh, rfl, rfl, rfl, hk, hnk, hit, hbw, hst⟩ := hrel
    by_cases hp : k < s.size
    · have hnx : ∀ ty, (Instr.next (.pointer (some ⟨w.heap.size, 0, none⟩)) true ty).run Tryz.prog wr = _ := fun ty => Lib.run_next_any_at wr w.heap.size s k ty hit hp
      have hit2 := Lib.iterAt_heap wr w.heap.size s k (k + (Utf8.decode s k).2) hit
      have hbw2 := Lib.below_iterAt hbw (k := w.heap.size) (by omega) s (k + (Utf8.decode s k).2)
      have Hit := Lib.hid hit
      clear hit hbw
      by_cases ha : s[k].toNat < 128
      · have hd : Utf8.decode s k = (s[k].toNat, 1) := decode_ascii s k hp ha
        rw [hd] at hnx hit2 hbw2
        simp only at hnx hit2 hbw2
        clear hd
        rw [get_list s k hp] at hst
        have ch := fun w => tgHidden_any s[k].toNat w
        generalize s[k] = b at *
        by_cases hstop : tgHid b.toNat = true ∨ b.toNat = 41 ∧ n = 0 ∧ bh = false
        · rw [bareGo_stop hstop] at hst
          have HR0 := bareL_is hst
          by_cases hh : tgHid b.toNat = true
          · rw [hh] at ch
            have HC := Lib.hid ch
            by_cases hn0 : 0 < n
            · have HR := Lib.hid (show bareL s.data.toList = 0 from by rw [HR0, if_pos hn0])
              clear HR0 hst hstop hh ch
              go_wp2_with (go_at_call 178; refine (HC.out _).mono ?_; rintro e w' ⟨rfl, rfl⟩)
              go_ret
              exact ⟨by rw [HR.out]; rfl, hbw2⟩
            · have HR := Lib.hid (show bareL s.data.toList = k from by rw [HR0, if_neg hn0])
              obtain rfl : n = 0 := by omega
              clear HR0 hst hstop hh ch
              go_wp2_with (go_at_call 178; refine (HC.out _).mono ?_; rintro e w' ⟨rfl, rfl⟩)
              go_ret
              exact ⟨by rw [HR.out]; rfl, hbw2⟩
          · rcases hstop with h | ⟨h1, rfl, rfl⟩
            · exact absurd h hh
            · rw [Bool.eq_false_iff.2 hh] at ch
              have HC := Lib.hid ch
              have f1 : ((b.toNat : Int) == 41) = true := by simp; omega
              have HR := Lib.hid (show bareL s.data.toList = k from by rw [HR0]; rfl)
              clear HR0 hst hh ch h1
              go_wp2_with (go_at_call 178; refine (HC.out _).mono ?_; rintro e w' ⟨rfl, rfl⟩)
              go_ret
              exact ⟨by rw [HR.out]; rfl, hbw2⟩
        · have hh : tgHid b.toNat = false := by
            rw [← Bool.not_eq_true]; exact fun e => hstop (Or.inl e)
          rw [bareGo_on hh (fun e => hstop (Or.inr e))] at hst
          rw [hh] at ch
          have HC := Lib.hid ch
          cases bh with
          | true =>
            rw [if_pos rfl] at hst
            have HR := Lib.hid hst
            clear hst hstop hh ch
            by_cases h41 : b.toNat = 41
            · have f1 : ((b.toNat : Int) == 41) = true := by simp; omega
              by_cases hn0 : n = 0
              · subst hn0
                clear h41
                go_wp2_with (go_at_call 178; refine (HC.out _).mono ?_; rintro e w' ⟨rfl, rfl⟩)
                go_roundw
                case rel => exact ⟨k + 1, 0, false, rfl, by go_num, rfl, by omega, by omega, hit2, hbw2, HR.out⟩
                case measure => simp only [World.iterPos, hit2, Hit.out]; omega
              · have f2 : ((n : Int) == 0) = false := by simp; omega
                clear h41
                go_wp2_with (go_at_call 178; refine (HC.out _).mono ?_; rintro e w' ⟨rfl, rfl⟩)
                go_roundw
                case rel => exact ⟨k + 1, n, false, rfl, by go_num, rfl, by omega, by omega, hit2, hbw2, HR.out⟩
                case measure => simp only [World.iterPos, hit2, Hit.out]; omega
            · have f1 : ((b.toNat : Int) == 41) = false := by simp; omega
              clear h41
              go_wp2_with (go_at_call 178; refine (HC.out _).mono ?_; rintro e w' ⟨rfl, rfl⟩)
              go_roundw
              case rel => exact ⟨k + 1, n, false, rfl, by go_num, rfl, by omega, by omega, hit2, hbw2, HR.out⟩
              case measure => simp only [World.iterPos, hit2, Hit.out]; omega
          | false =>
            rw [if_neg (by simp)] at hst
            by_cases h92 : b.toNat = 92
            · rw [if_pos h92] at hst
              have HR := Lib.hid hst
              have f1 : ((b.toNat : Int) == 41) = false := by simp; omega
              have f2 : ((b.toNat : Int) == 92) = true := by simp; omega
              clear hst hstop hh ch h92
              go_wp2_with (go_at_call 178; refine (HC.out _).mono ?_; rintro e w' ⟨rfl, rfl⟩)
              go_roundw
              case rel => exact ⟨k + 1, n, true, rfl, by go_num, rfl, by omega, by omega, hit2, hbw2, HR.out⟩
              case measure => simp only [World.iterPos, hit2, Hit.out]; omega
            · rw [if_neg h92] at hst
              have f2 : ((b.toNat : Int) == 92) = false := by simp; omega
              by_cases h40 : b.toNat = 40
              · rw [if_pos h40] at hst
                have HR := Lib.hid hst
                have f1 : ((b.toNat : Int) == 41) = false := by simp; omega
                have f3 : ((b.toNat : Int) == 40) = true := by simp; omega
                clear hst hstop hh ch h92 h40
                go_wp2_with (go_at_call 178; refine (HC.out _).mono ?_; rintro e w' ⟨rfl, rfl⟩)
                go_roundw
                case rel => exact ⟨k + 1, n + 1, false, rfl, by go_num, rfl, by omega, by omega, hit2, hbw2, HR.out⟩
                case measure => simp only [World.iterPos, hit2, Hit.out]; omega
              · rw [if_neg h40] at hst
                have f3 : ((b.toNat : Int) == 40) = false := by simp; omega
                by_cases h41 : b.toNat = 41
                · rw [if_pos h41] at hst
                  have HR := Lib.hid hst
                  have f1 : ((b.toNat : Int) == 41) = true := by simp; omega
                  have hn0 : 0 < n := by
                    by_cases hz : n = 0
                    · exact absurd (Or.inr ⟨h41, hz, rfl⟩) hstop
                    · omega
                  have f4 : ((n : Int) == 0) = false := by simp; omega
                  clear hst hstop hh ch h92 h40 h41
                  go_wp2_with (go_at_call 178; refine (HC.out _).mono ?_; rintro e w' ⟨rfl, rfl⟩)
                  go_roundw
                  case rel => exact ⟨k + 1, n - 1, false, rfl, by go_num, rfl, by omega, by omega, hit2, hbw2, HR.out⟩
                  case measure => simp only [World.iterPos, hit2, Hit.out]; omega
                · rw [if_neg h41] at hst
                  have HR := Lib.hid hst
                  have f1 : ((b.toNat : Int) == 41) = false := by simp; omega
                  clear hst hstop hh ch h92 h40 h41
                  go_wp2_with (go_at_call 178; refine (HC.out _).mono ?_; rintro e w' ⟨rfl, rfl⟩)
                  go_roundw
                  case rel => exact ⟨k + 1, n, false, rfl, by go_num, rfl, by omega, by omega, hit2, hbw2, HR.out⟩
                  case measure => simp only [World.iterPos, hit2, Hit.out]; omega
      · obtain ⟨d1, d2, d3, m, hm1, hm2, hm3⟩ := rune_high s k hp (by omega)
        have hd9 := decode_max s k
        rw [hm1, bareGo_high m _ n k bh hm3 (by omega), hm2] at hst
        have HR := Lib.hid hst
        have ch := fun w => tgHidden_any (Utf8.decode s k).1 w
        rw [hidB_high (by omega)] at ch
        have HC := Lib.hid ch
        have f1 : (((Utf8.decode s k).1 : Int) == 92) = false := by simp; omega
        have f2 : (((Utf8.decode s k).1 : Int) == 40) = false := by simp; omega
        have f3 : (((Utf8.decode s k).1 : Int) == 41) = false := by simp; omega
        clear hm1 hm2 hm3 ha hst ch
        generalize (Utf8.decode s k).1 = r at *
        generalize (Utf8.decode s k).2 = d at *
        cases bh with
        | true =>
          go_wp2_with (go_at_call 178; refine (HC.out _).mono ?_; rintro e w' ⟨rfl, rfl⟩)
          go_roundw
          case rel => exact ⟨k + d, n, false, rfl, rfl, rfl, by omega, by omega, hit2, hbw2, HR.out⟩
          case measure => simp only [World.iterPos, hit2, Hit.out]; omega
        | false =>
          go_wp2_with (go_at_call 178; refine (HC.out _).mono ?_; rintro e w' ⟨rfl, rfl⟩)
          go_roundw
          case rel => exact ⟨k + d, n, false, rfl, rfl, rfl, by omega, by omega, hit2, hbw2, HR.out⟩
          case measure => simp only [World.iterPos, hit2, Hit.out]; omega
    · have hnx : ∀ ty, (Instr.next (.pointer (some ⟨w.heap.size, 0, none⟩)) true ty).run Tryz.prog wr = _ := fun ty => Lib.run_next_end_at wr w.heap.size s k ty hit hp
      obtain rfl : k = s.size := by omega
      rw [drop_all' s _ hp] at hst
      have HR := bareL_is hst
      clear hst
      by_cases hn0 : 0 < n
      · rw [if_pos hn0] at HR
        have HR2 := Lib.hid HR
        clear HR
        go_wp2
        go_ret
        exact ⟨by rw [HR2.out]; rfl, hbw⟩
      · rw [if_neg hn0] at HR
        have HR2 := Lib.hid HR
        obtain rfl : n = 0 := by omega
        clear HR
        go_wp2
        go_ret
        exact ⟨by rw [HR2.out]; rfl, hbw⟩
end Go.Proofs.YteihmgcphbijhaaGreatDoor
namespace Go.Proofs.YteihmgcphbijhaaGreatDoor
open Go.RowKit
set_option linter.unusedSimpArgs false
set_option linter.unusedVariables false
theorem prefix_first {s : ByteArray} {b : UInt8} (h : Lib.hasPrefix s.data.toList [b] = true) : ∃ h0 : 0 < s.size, s[0] = b := by
  have hz := hasPrefix_size h
  have h0 : 0 < s.size := hz
  refine ⟨h0, ?_⟩
  have hl := get_list s 0 h0
  rw [List.drop_zero] at hl
  rw [hl] at h
  have h2 : [b] <+: s[0] :: s.data.toList.drop (0 + 1) := List.isPrefixOf_iff_prefix.1 h
  exact (List.cons_prefix_cons.1 h2).1.symm
theorem take_str (s : ByteArray) (n : Nat) : (s.extract 0 n).data.toList = s.data.toList.take n := by
  rw [part_str, List.drop_zero]
set_option maxHeartbeats 1000000 in
theorem dest_any (s : ByteArray) (w : World) (hn : NamedIs w) (hs : s.size ≤ 1099511627776) :
    Calls Tryz.prog 141 #[.string s] w fun e w' => e = .returned (tib (destL s.data.toList)) ∧ Below w.heap.size w w' := by
  have p1 := fun w => Tryz.strings_HasPrefix s ⟨#[60]⟩ w
  rw [show (⟨#[60]⟩ : ByteArray).data.toList = [60] from rfl] at p1
  cases h1 : Lib.hasPrefix s.data.toList [60] with
  | true =>
    rw [h1] at p1
    obtain ⟨h0, hb⟩ := prefix_first h1
    have cb := between_any s 62 ⟨#[60, 10]⟩ w hn h0 (by rw [hb]; decide) (by decide) (by decide) (by decide) hs
    rw [show (⟨#[60, 10]⟩ : ByteArray).data.toList = [60, 10] from rfl, show (((62 : UInt8).toNat : Nat) : Int) = 62 from rfl] at cb
    have HR := Lib.hid (show destL s.data.toList = btwL 62 [60, 10] s.data.toList from by unfold destL; rw [if_pos h1])
    have P1 := Lib.hid p1
    clear p1 h1 hb hn
    generalize btwL 62 [60, 10] s.data.toList = x at *
    obtain ⟨X, z, k⟩ := x
    unfold tib at cb
    go_enter Tryz.func141, Tryz.ntmps141
    go_wp2_with fail
    refine (P1.out _).mono ?_
    rintro e w' ⟨rfl, rfl⟩
    go_wp2_with fail
    refine cb.mono ?_
    rintro e w1 ⟨rfl, b1⟩
    go_wp2
    go_ret3
    exact ⟨by rw [HR.out]; rfl, b1⟩
  | false =>
    rw [h1] at p1
    have c1 := bare_any s w hs
    have hle := bareL_le s.data.toList
    rw [show s.data.toList.length = s.size from by simp] at hle
    have hsl := slice_hi s (bareL s.data.toList) (bareL s.data.toList) rfl hle
    have cu := fun W hn => unescape_any (s.extract 0 (bareL s.data.toList)) W hn (by rw [ByteArray.size_extract]; omega)
    rw [take_str] at cu
    have HR := Lib.hid (show destL s.data.toList = (unL (s.data.toList.take (bareL s.data.toList)), bareL s.data.toList, decide (0 < bareL s.data.toList)) from by unfold destL; rw [if_neg (by rw [h1]; simp)])
    have P1 := Lib.hid p1
    have CU := Lib.hid cu
    have HN := Lib.hid hn
    clear p1 h1 cu hn
    generalize unL (s.data.toList.take (bareL s.data.toList)) = X at *
    generalize bareL s.data.toList = n at *
    generalize s.extract 0 n = T at *
    go_enter Tryz.func141, Tryz.ntmps141
    go_wp2_with fail
    refine (P1.out _).mono ?_
    rintro e w' ⟨rfl, rfl⟩
    go_wp2_with fail
    refine c1.mono ?_
    rintro e w1 ⟨rfl, b1⟩
    go_wp2_with fail
    refine (CU.out _ (HN.out.below b1)).mono ?_
    rintro e w2 ⟨rfl, b2⟩
    go_wp2
    go_ret3
    exact ⟨by rw [HR.out]; exact ret_sib rfl rfl (by simp), b1.then b2⟩
set_option maxHeartbeats 1000000 in
theorem title_any (s : ByteArray) (w : World) (hn : NamedIs w) (hs : s.size ≤ 1099511627776) :
    Calls Tryz.prog 143 #[.string s] w fun e w' => e = .returned (tib (titleL s.data.toList)) ∧ Below w.heap.size w w' := by
  have p1 := fun w => Tryz.strings_HasPrefix s ⟨#[34]⟩ w
  have p2 := fun w => Tryz.strings_HasPrefix s ⟨#[39]⟩ w
  have p3 := fun w => Tryz.strings_HasPrefix s ⟨#[40]⟩ w
  rw [show (⟨#[34]⟩ : ByteArray).data.toList = [34] from rfl] at p1
  rw [show (⟨#[39]⟩ : ByteArray).data.toList = [39] from rfl] at p2
  rw [show (⟨#[40]⟩ : ByteArray).data.toList = [40] from rfl] at p3
  cases h1 : Lib.hasPrefix s.data.toList [34] with
  | true =>
    rw [h1] at p1
    obtain ⟨h0, hb⟩ := prefix_first h1
    have cb := between_any s 34 ByteArray.empty w hn h0 (by rw [hb]; decide) (by decide) (by decide) (by decide) hs
    rw [show (ByteArray.empty : ByteArray).data.toList = [] from rfl, show (((34 : UInt8).toNat : Nat) : Int) = 34 from rfl] at cb
    have HR := Lib.hid (show titleL s.data.toList = btwL 34 [] s.data.toList from by unfold titleL; rw [if_pos h1])
    have P1 := Lib.hid p1
    clear p1 p2 p3 h1 hb hn
    generalize btwL 34 [] s.data.toList = x at *
    obtain ⟨X, z, k⟩ := x
    unfold tib at cb
    go_enter Tryz.func143, Tryz.ntmps143
    go_wp2_with fail
    refine (P1.out _).mono ?_
    rintro e w' ⟨rfl, rfl⟩
    go_wp2_with fail
    refine cb.mono ?_
    rintro e w1 ⟨rfl, b1⟩
    go_wp2
    go_ret3
    exact ⟨by rw [HR.out]; rfl, b1⟩
  | false =>
    rw [h1] at p1
    cases h2 : Lib.hasPrefix s.data.toList [39] with
    | true =>
      rw [h2] at p2
      obtain ⟨h0, hb⟩ := prefix_first h2
      have cb := between_any s 39 ByteArray.empty w hn h0 (by rw [hb]; decide) (by decide) (by decide) (by decide) hs
      rw [show (ByteArray.empty : ByteArray).data.toList = [] from rfl, show (((39 : UInt8).toNat : Nat) : Int) = 39 from rfl] at cb
      have HR := Lib.hid (show titleL s.data.toList = btwL 39 [] s.data.toList from by unfold titleL; rw [if_neg (by rw [h1]; simp), if_pos h2])
      have P1 := Lib.hid p1
      have P2 := Lib.hid p2
      clear p1 p2 p3 h1 h2 hb hn
      generalize btwL 39 [] s.data.toList = x at *
      obtain ⟨X, z, k⟩ := x
      unfold tib at cb
      go_enter Tryz.func143, Tryz.ntmps143
      go_wp2_with fail
      refine (P1.out _).mono ?_
      rintro e w' ⟨rfl, rfl⟩
      go_wp2_with fail
      refine (P2.out _).mono ?_
      rintro e w' ⟨rfl, rfl⟩
      go_wp2_with fail
      refine cb.mono ?_
      rintro e w1 ⟨rfl, b1⟩
      go_wp2
      go_ret3
      exact ⟨by rw [HR.out]; rfl, b1⟩
    | false =>
      rw [h2] at p2
      cases h3 : Lib.hasPrefix s.data.toList [40] with
      | true =>
        rw [h3] at p3
        obtain ⟨h0, hb⟩ := prefix_first h3
        have cb := between_any s 41 ⟨#[40]⟩ w hn h0 (by rw [hb]; decide) (by decide) (by decide) (by decide) hs
        rw [show (⟨#[40]⟩ : ByteArray).data.toList = [40] from rfl, show (((41 : UInt8).toNat : Nat) : Int) = 41 from rfl] at cb
        have HR := Lib.hid (show titleL s.data.toList = btwL 41 [40] s.data.toList from by unfold titleL; rw [if_neg (by rw [h1]; simp), if_neg (by rw [h2]; simp), if_pos h3])
        have P1 := Lib.hid p1
        have P2 := Lib.hid p2
        have P3 := Lib.hid p3
        clear p1 p2 p3 h1 h2 h3 hb hn
        generalize btwL 41 [40] s.data.toList = x at *
        obtain ⟨X, z, k⟩ := x
        unfold tib at cb
        go_enter Tryz.func143, Tryz.ntmps143
        go_wp2_with fail
        refine (P1.out _).mono ?_
        rintro e w' ⟨rfl, rfl⟩
        go_wp2_with fail
        refine (P2.out _).mono ?_
        rintro e w' ⟨rfl, rfl⟩
        go_wp2_with fail
        refine (P3.out _).mono ?_
        rintro e w' ⟨rfl, rfl⟩
        go_wp2_with fail
        refine cb.mono ?_
        rintro e w1 ⟨rfl, b1⟩
        go_wp2
        go_ret3
        exact ⟨by rw [HR.out]; rfl, b1⟩
      | false =>
        rw [h3] at p3
        have HR := Lib.hid (show titleL s.data.toList = ([], 0, false) from by unfold titleL; rw [if_neg (by rw [h1]; simp), if_neg (by rw [h2]; simp), if_neg (by rw [h3]; simp)])
        have P1 := Lib.hid p1
        have P2 := Lib.hid p2
        have P3 := Lib.hid p3
        clear p1 p2 p3 h1 h2 h3
        go_enter Tryz.func143, Tryz.ntmps143
        go_wp2_with fail
        refine (P1.out _).mono ?_
        rintro e w' ⟨rfl, rfl⟩
        go_wp2_with fail
        refine (P2.out _).mono ?_
        rintro e w' ⟨rfl, rfl⟩
        go_wp2_with fail
        refine (P3.out _).mono ?_
        rintro e w' ⟨rfl, rfl⟩
        go_wp2
        go_ret3
        exact ⟨by rw [HR.out]; rfl, Below.refl _ _⟩
end Go.Proofs.YteihmgcphbijhaaGreatDoor

namespace Go.Proofs.YteihmgcphbijhaaGreatDoor
open Go.RowKit
set_option linter.unusedVariables false
/-- The library's variable, whatever number it holds. -/
def MaxL (w : World) : Prop := ∃ m : Int, w.cell? ⟨1, 0, none⟩ = some (.int .i64 m)
theorem MaxL.below {w w' : World} (h : MaxL w) (hb : Below w.heap.size w w') : MaxL w' := by
  obtain ⟨m, hm⟩ := h
  exact ⟨m, (hb.cell (p := ⟨1, 0, none⟩) (World.block_lt_of_cell? _ _ hm)).trans hm⟩
theorem MaxL.lt {w : World} (h : MaxL w) : 1 < w.heap.size := by
  obtain ⟨m, hm⟩ := h
  exact World.block_lt_of_cell? _ _ hm
theorem MaxL.heap {w w' : World} (h : MaxL w) (hh : w'.heap = w.heap) : MaxL w' := by
  obtain ⟨m, hm⟩ := h
  exact ⟨m, by simpa [World.cell?, hh] using hm⟩
theorem MaxL.alloc {w : World} (h : MaxL w) (o : Obj) : MaxL (w.alloc o) := h.below ((Below.refl _ w).alloc (Nat.le_refl _) o)
theorem maxL_of {w : World} (h : w.ShapedOpen Tryz.prog) : MaxL w := Go.Proofs.cell_of_shapedOpen_int (zero := #[.int .i64 0]) (t := 3) h (of_decide_eq_true (by kernel_rfl)) (by kernel_rfl) rfl (by kernel_rfl) (by kernel_rfl) Tryz.underlying3
end Go.Proofs.YteihmgcphbijhaaGreatDoor

namespace Go.Proofs.YteihmgcphbijhaaGreatDoor
open Go.ChangeShapes Go.WideShapes Go.ChangeAt Go.RowKit
set_option linter.unusedVariables false
/-- What the walks ask of variables. -/
structure Elv (w : World) : Prop where
  nm : NamedIs w
  ml : MaxL w
theorem Elv.below {w w' : World} (h : Elv w) (hb : Below w.heap.size w w') : Elv w' := ⟨h.nm.below hb, h.ml.below hb⟩
end Go.Proofs.YteihmgcphbijhaaGreatDoor

namespace Go.Proofs.YteihmgcphbijhaaGreatDoor
open Go.RowKit
set_option linter.unusedSimpArgs false
set_option linter.unusedVariables false
set_option maxRecDepth 100000
theorem emp_yes {X : ByteArray} (h : X.data.toList = []) : X.toList.isEmpty = true ∧ (X.toList == []) = true := by
  rw [ByteArray.toList_eq, h]; exact ⟨rfl, rfl⟩
theorem emp_no {X : ByteArray} (h : ¬ X.data.toList = []) : X.toList.isEmpty = false ∧ (X.toList == []) = false := by
  rw [ByteArray.toList_eq]
  cases hx : X.data.toList with
  | nil => exact absurd hx h
  | cons b l => exact ⟨rfl, rfl⟩
def NmRel (s : ByteArray) (w : World) (I : Nat) (z : Value) (wr : World) : Prop :=
  ∃ k : Nat, z = .string ⟨#[]⟩ ∧ k ≤ s.size ∧ wr.heap[I]? = some (.stringIter s k) ∧ Below w.heap.size w wr ∧ badN (s.data.toList.drop k) = badN s.data.toList
theorem badN_cons (b : UInt8) (l : List UInt8) : badN (b :: l) = (b == 91 || b == 93 || b == 10 || b == 0 || badN l) := rfl
theorem badN_high : ∀ (m l : List UInt8), (∀ b ∈ m, 128 ≤ b.toNat) → badN (m ++ l) = badN l
  | [], _, _ => rfl
  | b :: m, l, h => by
    have hb := h b (by simp)
    rw [List.cons_append, badN_cons, badN_high m l (fun x hx => h x (by simp [hx]))]
    have h1 : (b == 91) = false := by rw [beq_eq_false_iff_ne]; rintro rfl; exact absurd hb (by decide)
    have h2 : (b == 93) = false := by rw [beq_eq_false_iff_ne]; rintro rfl; exact absurd hb (by decide)
    have h3 : (b == 10) = false := by rw [beq_eq_false_iff_ne]; rintro rfl; exact absurd hb (by decide)
    have h4 : (b == 0) = false := by rw [beq_eq_false_iff_ne]; rintro rfl; exact absurd hb (by decide)
    rw [h1, h2, h3, h4]
    rfl
/-- A rune goes by that is none of the four. -/
theorem badN_rune (s : ByteArray) (k : Nat) (h : k < s.size) (hb : (s[k] == 91 || s[k] == 93 || s[k] == 10 || s[k] == 0) = false) : badN (s.data.toList.drop k) = badN (s.data.toList.drop (k + (Utf8.decode s k).2)) := by
  have h2 := decode_tail s k h
  have h1 := (decode_step s k h)
  obtain ⟨j, hj⟩ : ∃ j, (Utf8.decode s k).2 = j + 1 := ⟨(Utf8.decode s k).2 - 1, by omega⟩
  rw [hj] at h2 ⊢
  have hl : s.data.toList.length = s.size := by simp
  rw [get_list s k h, badN_cons, hb, Bool.false_or]
  have e : s.data.toList.drop (k + 1) = (s.data.toList.drop (k + 1)).take j ++ s.data.toList.drop (k + (j + 1)) := by
    have e3 : s.data.toList.drop (k + (j + 1)) = (s.data.toList.drop (k + 1)).drop j := by rw [List.drop_drop]; congr 1; omega
    rw [e3, List.take_append_drop]
  rw [e]
  refine badN_high _ _ ?_
  intro b hb2
  obtain ⟨i, hi, rfl⟩ := List.mem_iff_getElem.1 hb2
  rw [List.length_take, List.length_drop] at hi
  have h3 := h2.2 (i + 1) (by omega) (by omega)
  rw [get!_list s (k + (i + 1)) (by omega)] at h3
  rw [List.getElem_take, List.getElem_drop]
  have e2 : k + 1 + i = k + (i + 1) := by omega
  simp only [e2]
  exact h3
set_option maxHeartbeats 8000000 in
theorem defName_any (s : ByteArray) (w : World) (hs : s.size ≤ 17592186044416) :
    Calls Tryz.prog 135 #[.string s] w fun e w' => e = .returned (.tuple #[.string ⟨(dnL s.data.toList).1.toArray⟩, .bool (dnL s.data.toList).2]) ∧ Below w.heap.size w w' := by
  have cf := fun w1 => fold_any s w1 hs
  rw [foldB_segs] at cf
  have CF := Lib.hid cf
  clear cf
  go_enter Tryz.func135, Tryz.ntmps135
  go_wp2_with fail
  go_loopw [2] (fun z wr => NmRel s w w.heap.size z wr) (fun _ wr => s.size - wr.iterPos w.heap.size)
  case atStart => exact ⟨0, rfl, Nat.zero_le _, World.iter_heap w s 0, (Below.refl _ w).alloc (Nat.le_refl _) _, by simp⟩
  case round =>
    obtain ⟨k, rfl, hk, hit, hbw, hsz⟩ := hrel
    by_cases hp : k < s.size
    · have hnx : ∀ ty, (Instr.next (.pointer (some ⟨w.heap.size, 0, none⟩)) true ty).run Tryz.prog wr = _ := fun ty => Lib.run_next_any_at wr w.heap.size s k ty hit hp
      have hit2 := Lib.iterAt_heap wr w.heap.size s k (k + (Utf8.decode s k).2) hit
      have hbw2 := Lib.below_iterAt hbw (k := w.heap.size) (by omega) s (k + (Utf8.decode s k).2)
      have Hit := Lib.hid hit
      have hdt := (decode_tail s k hp).1
      have hds := decode_step s k hp
      have q91 := rune_is s k hp 91 (by decide)
      have q93 := rune_is s k hp 93 (by decide)
      have q10 := rune_is s k hp 10 (by decide)
      have q0 := rune_is s k hp 0 (by decide)
      clear hit hbw
      cases hg : (s[k] == 91 || s[k] == 93 || s[k] == 10 || s[k] == 0) with
      | true =>
        have HB := Lib.hid (show badN s.data.toList = true from by rw [← hsz, get_list s k hp, badN_cons, hg]; rfl)
        have hor : s[k] = 91 ∨ s[k] = 93 ∨ s[k] = 10 ∨ s[k] = 0 := by simpa [or_assoc] using hg
        have HR := Lib.hid (show dnL s.data.toList = ([], false) from by unfold dnL; rw [if_pos (by rw [HB.out]; simp)])
        clear hsz hg hdt hds HB
        rcases hor with h | h | h | h
        · have n1 : ((Utf8.decode s k).1 : Int) == 91 := by have := q91.2 h; simp at this ⊢; omega
          rw [h] at *
          have hn1 : (((Utf8.decode s k).1 : Int) == 91) = true := n1
          clear q91 q93 q10 q0 h n1
          go_wp2
          go_ret2
          exact ⟨by rw [HR.out]; rfl, hbw2⟩
        · have n0 : (((Utf8.decode s k).1 : Int) == 91) = false := by have := q93.2 h; simp at this ⊢; omega
          have n1 : (((Utf8.decode s k).1 : Int) == 93) = true := by have := q93.2 h; simp at this ⊢; omega
          clear q91 q93 q10 q0 h
          go_wp2
          go_ret2
          exact ⟨by rw [HR.out]; rfl, hbw2⟩
        · have n0 : (((Utf8.decode s k).1 : Int) == 91) = false := by have := q10.2 h; simp at this ⊢; omega
          have n1 : (((Utf8.decode s k).1 : Int) == 93) = false := by have := q10.2 h; simp at this ⊢; omega
          have n2 : (((Utf8.decode s k).1 : Int) == 10) = true := by have := q10.2 h; simp at this ⊢; omega
          clear q91 q93 q10 q0 h
          go_wp2
          go_ret2
          exact ⟨by rw [HR.out]; rfl, hbw2⟩
        · have n0 : (((Utf8.decode s k).1 : Int) == 91) = false := by have := q0.2 h; simp at this ⊢; omega
          have n1 : (((Utf8.decode s k).1 : Int) == 93) = false := by have := q0.2 h; simp at this ⊢; omega
          have n2 : (((Utf8.decode s k).1 : Int) == 10) = false := by have := q0.2 h; simp at this ⊢; omega
          have n3 : (((Utf8.decode s k).1 : Int) == 0) = true := by have := q0.2 h; simp at this ⊢; omega
          clear q91 q93 q10 q0 h
          go_wp2
          go_ret2
          exact ⟨by rw [HR.out]; rfl, hbw2⟩
      | false =>
        have HS := Lib.hid (show badN (s.data.toList.drop (k + (Utf8.decode s k).2)) = badN s.data.toList from by rw [← badN_rune s k hp hg, hsz])
        have hg2 : ¬ s[k] = 91 ∧ ¬ s[k] = 93 ∧ ¬ s[k] = 10 ∧ ¬ s[k] = 0 := by
          simp only [Bool.or_eq_false_iff, beq_eq_false_iff_ne, ne_eq] at hg
          exact ⟨hg.1.1.1, hg.1.1.2, hg.1.2, hg.2⟩
        have n0 : (((Utf8.decode s k).1 : Int) == 91) = false := by have := mt q91.1 hg2.1; simp at this ⊢; omega
        have n1 : (((Utf8.decode s k).1 : Int) == 93) = false := by have := mt q93.1 hg2.2.1; simp at this ⊢; omega
        have n2 : (((Utf8.decode s k).1 : Int) == 10) = false := by have := mt q10.1 hg2.2.2.1; simp at this ⊢; omega
        have n3 : (((Utf8.decode s k).1 : Int) == 0) = false := by have := mt q0.1 hg2.2.2.2; simp at this ⊢; omega
        have HD := Lib.hid (And.intro hdt hds)
        clear hsz hg hg2 q91 q93 q10 q0 hdt hds
        go_wp2
        go_roundw
        case rel => exact ⟨k + (Utf8.decode s k).2, rfl, HD.out.1, hit2, hbw2, HS.out⟩
        case measure => have := HD.out; simp only [World.iterPos, hit2, Hit.out]; omega
    · have hnx : ∀ ty, (Instr.next (.pointer (some ⟨w.heap.size, 0, none⟩)) true ty).run Tryz.prog wr = _ := fun ty => Lib.run_next_end_at wr w.heap.size s k ty hit hp
      have e : s.data.toList.drop k = [] := List.drop_eq_nil_of_le (by simp; omega)
      rw [e] at hsz
      have hbad : badN s.data.toList = false := hsz.symm
      have HD := Lib.hid (show dnL s.data.toList = if (foldL s.data.toList).isEmpty || decide (60 < (foldL s.data.toList).length) then ([], false) else (foldL s.data.toList, true) from by unfold dnL; rw [hbad, Bool.or_false])
      clear e hsz hbad
      generalize foldL s.data.toList = F at *
      obtain ⟨X, hX, rfl⟩ := text_of' F
      rw [hX] at CF
      have hlen : X.data.toList.length = X.size := by simp
      by_cases h0 : X.data.toList = []
      · obtain ⟨e1, e2⟩ := emp_yes h0
        have HR := Lib.hid (show dnL s.data.toList = ([], false) from by rw [HD.out, h0]; rfl)
        clear HD h0 hlen hX
        go_wp2_with fail
        refine (CF.out _).mono ?_
        rintro e w1 ⟨rfl, b1⟩
        go_wp2
        go_ret2
        exact ⟨by rw [HR.out]; rfl, hbw.then b1⟩
      · obtain ⟨e1, e2⟩ := emp_no h0
        by_cases h6 : 60 < X.size
        · have n1 : decide ((X.size : Int) > 60) = true := by simp; omega
          have n2 : (60 : Int) < (X.size : Int) := by omega
          have HR := Lib.hid (show dnL s.data.toList = ([], false) from by rw [HD.out, if_pos (by rw [hlen]; simp [h6])])
          clear HD h6 h0 hlen hX
          go_wp2_with fail
          refine (CF.out _).mono ?_
          rintro e w1 ⟨rfl, b1⟩
          go_wp2
          go_ret2
          exact ⟨by rw [HR.out]; rfl, hbw.then b1⟩
        · have n1 : decide ((X.size : Int) > 60) = false := by simp; omega
          have n2 : ¬ (60 : Int) < (X.size : Int) := by omega
          have HR := Lib.hid (show dnL s.data.toList = (X.data.toList, true) from by rw [HD.out, if_neg (by rw [hlen]; cases h : X.data.toList with | nil => exact absurd h h0 | cons b l => simp; omega)])
          clear HD h6 h0 hlen hX
          go_wp2_with fail
          refine (CF.out _).mono ?_
          rintro e w1 ⟨rfl, b1⟩
          go_wp2
          go_ret2
          exact ⟨by rw [HR.out]; show _ = Ending.returned (.tuple #[.string ⟨X.data.toList.toArray⟩, .bool true]); rw [Lib.mk_data]; rfl, hbw.then b1⟩
def dfV (x : Dfn) : Value := .agg #[.string ⟨x.nm.toArray⟩, .string ⟨x.url.toArray⟩, .string ⟨x.ttl.toArray⟩, .string ⟨x.txt.toArray⟩, .bool x.nt]
def DfAt (w : World) (g : Nat) (x : Dfn) : Prop := w.heap[g]? = some (.cells #[.string ⟨x.nm.toArray⟩, .string ⟨x.url.toArray⟩, .string ⟨x.ttl.toArray⟩, .string ⟨x.txt.toArray⟩, .bool x.nt] 153 (0, 0))
theorem DfAt.below {w w' : World} {g : Nat} {b : Dfn} (h : DfAt w g b) (hb : Below w.heap.size w w') : DfAt w' g b := (hb.block g (Array.getElem?_eq_some_iff.1 h).1).trans h
theorem DfAt.cells {w : World} {g : Nat} {x : Dfn} (h : DfAt w g x) : w.cell? ⟨g, 0, none⟩ = some (.string ⟨x.nm.toArray⟩) ∧ w.cell? ⟨g, 1, none⟩ = some (.string ⟨x.url.toArray⟩) ∧ w.cell? ⟨g, 2, none⟩ = some (.string ⟨x.ttl.toArray⟩) ∧
    w.cell? ⟨g, 3, none⟩ = some (.string ⟨x.txt.toArray⟩) ∧ w.cell? ⟨g, 4, none⟩ = some (.bool x.nt) ∧ ∀ i, w.frozen? ⟨g, i, none⟩ = false := by
  unfold DfAt at h
  refine ⟨?_, ?_, ?_, ?_, ?_, fun i => by simp [World.frozen?, h]⟩
  · rw [cell_of_row w _ 0 _ _ (0, 0) h]; rfl
  · rw [cell_of_row w _ 1 _ _ (0, 0) h]; rfl
  · rw [cell_of_row w _ 2 _ _ (0, 0) h]; rfl
  · rw [cell_of_row w _ 3 _ _ (0, 0) h]; rfl
  · rw [cell_of_row w _ 4 _ _ (0, 0) h]; rfl
/-- All five cells set anew. -/
theorem DfAt.set {w : World} {g : Nat} {b : Dfn} (h : DfAt w g b) (y : Dfn) :
    DfAt (((((w.setCell ⟨g, 0, none⟩ (.string ⟨y.nm.toArray⟩)).setCell ⟨g, 1, none⟩ (.string ⟨y.url.toArray⟩)).setCell ⟨g, 2, none⟩ (.string ⟨y.ttl.toArray⟩)).setCell ⟨g, 3, none⟩ (.string ⟨y.txt.toArray⟩)).setCell ⟨g, 4, none⟩ (.bool y.nt)) g y := by
  unfold DfAt at *
  simp [World.setCell, Array.getElem?_modify, h]
theorem below_set5 {B : Nat} {w0 w : World} {g : Nat} (h : Below B w0 w) (hg : B ≤ g) (u0 u1 u2 u3 u4 : Value) :
    Below B w0 (((((w.setCell ⟨g, 0, none⟩ u0).setCell ⟨g, 1, none⟩ u1).setCell ⟨g, 2, none⟩ u2).setCell ⟨g, 3, none⟩ u3).setCell ⟨g, 4, none⟩ u4) :=
  ((((h.setCell (p := ⟨g, 0, none⟩) hg u0).setCell (p := ⟨g, 1, none⟩) hg u1).setCell (p := ⟨g, 2, none⟩) hg u2).setCell (p := ⟨g, 3, none⟩) hg u3).setCell (p := ⟨g, 4, none⟩) hg u4
theorem dfAt_zero (w : World) : DfAt (w.alloc (.cells #[.string ⟨#[]⟩, .string ⟨#[]⟩, .string ⟨#[]⟩, .string ⟨#[]⟩, .bool false] 153)) w.heap.size noDfn := heap_alloc_new w _
theorem ret_df {fn : Func} {p u : Tmp} (hres : fn.results = #[.cell p 153, .tmp u]) {W : World} {g : Nat} {b : Dfn} (h : DfAt W g b) {c : Value} {tmps : Array Value} (h2 : tmps.getD p undef = .pointer (some ⟨g, 0, none⟩)) (h3 : tmps.getD u undef = c) :
    (results fn tmps).run Tryz.prog W = .ok (.tuple #[dfV b, c]) W := by
  obtain ⟨c0, c1, c2, c3, c4, _⟩ := h.cells
  rw [results_cell_tmp hres, h2, h3]
  go_simp
  rfl
def dfTib (x : Dfn × Bool) : Value := .tuple #[dfV x.1, .bool x.2]
end Go.Proofs.YteihmgcphbijhaaGreatDoor
namespace Go.Proofs.YteihmgcphbijhaaGreatDoor
open Go.RowKit
set_option linter.unusedSimpArgs false
set_option linter.unusedVariables false
set_option maxRecDepth 100000
end Go.Proofs.YteihmgcphbijhaaGreatDoor
namespace Go.Proofs.YteihmgcphbijhaaGreatDoor
open Go.RowKit
set_option linter.unusedSimpArgs false
set_option linter.unusedVariables false
set_option maxRecDepth 100000
end Go.Proofs.YteihmgcphbijhaaGreatDoor
namespace Go.Proofs.YteihmgcphbijhaaGreatDoor
open Go.RowKit
set_option linter.unusedSimpArgs false
set_option linter.unusedVariables false
set_option maxRecDepth 100000
end Go.Proofs.YteihmgcphbijhaaGreatDoor

namespace Go.Proofs.YteihmgcphbijhaaGreatDoor
open Go.RowKit
set_option linter.unusedSimpArgs false
set_option linter.unusedVariables false
end Go.Proofs.YteihmgcphbijhaaGreatDoor
namespace Go.Proofs.YteihmgcphbijhaaGreatDoor
open Go.RowKit
set_option linter.unusedSimpArgs false
set_option linter.unusedVariables false
/-- What stands of the two tables of unicode/utf8. -/
def Tabs (w : World) : Prop := Lib.Utf8Tabs 5 6 w
theorem Tabs.below {w w' : World} (h : Tabs w) (hb : Below w.heap.size w w') : Tabs w' := Utf8Tabs_below h hb
end Go.Proofs.YteihmgcphbijhaaGreatDoor

namespace Go.Proofs.YteihmgcphbijhaaGreatDoor
open Go.RowKit Go.Maps
set_option linter.unusedSimpArgs false
set_option linter.unusedVariables false
set_option maxRecDepth 100000
def tbkLit (n : List UInt8) (b : Bool) : Lit := .string (keyBytes [.string n, .bool b])
def keyV (n : List UInt8) (b : Bool) : Value := .agg #[.string ⟨n.toArray⟩, .bool b]
theorem tbkeyLaw : Keyed Tryz.prog 201 := Keyed.of_law (deep_law_laid laidOut (m := 2) (by omega) (of_decide_eq_true (by kernel_rfl)) (by kernel_rfl) (by kernel_rfl))
theorem tbtypes_two : ∃ m, Tryz.prog.types.size = m + 2 := ⟨Tryz.prog.types.size - 2, by have : 2 ≤ Tryz.prog.types.size := of_decide_eq_true (by kernel_rfl); omega⟩
theorem keyOf_key (n : List UInt8) (b : Bool) (h : n.length ≤ maxLen) : keyOf Tryz.prog 201 (keyV n b) = some (tbkLit n b) := by
  obtain ⟨m, hm⟩ := tbtypes_two
  have hs : (⟨n.toArray⟩ : ByteArray).size ≤ maxLen := by rw [str_size]; exact h
  have hk : Tryz.prog.keyType 201 = true := by kernel_rfl
  have hf : (keyV n b).formed Tryz.prog 201 = true := by
    unfold keyV Value.formed
    rw [Tryz.underlying201]
    rfl
  have h1 : Tryz.prog.keyLits (m + 2) 9 [.string ⟨n.toArray⟩] = some [.string n] := by
    unfold Program.keyLits
    rw [Tryz.underlying9]
    simp only
    rw [if_pos hs]
  have h2 : Tryz.prog.keyLits (m + 2) 4 [.bool b] = some [.bool b] := by
    unfold Program.keyLits
    rw [Tryz.underlying4]
  have hc : Tryz.prog.cellsOf 201 = 2 := by kernel_rfl
  have hc1 : Tryz.prog.cellsOf 9 = 1 := by kernel_rfl
  have hc2 : Tryz.prog.cellsOf 4 = 1 := by kernel_rfl
  have h3 : Tryz.prog.keyLits (m + 2 + 1) 201 [.string ⟨n.toArray⟩, .bool b] = some [.string n, .bool b] := by
    unfold Program.keyLits
    rw [Tryz.underlying201]
    simp [hc, hc1, hc2, h1, h2]
  unfold keyOf
  rw [Tryz.underlying201]
  simp only
  rw [hk, hf, hm, show (keyV n b).cells.toList = [.string ⟨n.toArray⟩, .bool b] from rfl, h3]
  rfl
theorem tbkLit_key {n : List UInt8} {b : Bool} (h : n.length ≤ maxLen) : WideAt.IsKeyLit (tbkLit n b) := tbkeyLaw.key (keyOf_key n b h)
theorem tbkLit_inj {n m : List UInt8} {b c : Bool} (h : n.length ≤ maxLen) (h2 : m.length ≤ maxLen) (e : tbkLit n b = tbkLit m c) : n = m ∧ b = c := by
  have h3 := tbkeyLaw.inj (keyOf_key n b h) (by rw [e]; exact keyOf_key m c h2)
  unfold keyV at h3
  simp at h3
  exact h3
abbrev TbDU := DataW Unit
def tbF (m : TbDU) (i : Nat) : List Dfn → TbDU
  | [] => m
  | x :: D => tbF (m.put (tbkLit x.nm x.nt) (.lit (.int .i64 i))) (i + 1) D
def tbD (D : List Dfn) : TbDU := tbF (.map []) 0 D
/-- Whether there is one of that name and kind. -/
def dfHas (D : List Dfn) (n : List UInt8) (b : Bool) : Bool := D.any fun x => decide (x.nm = n) && (x.nt == b)
def NmOk (D : List Dfn) : Prop := ∀ x ∈ D, x.nm.length ≤ maxLen
def Uniq : List Dfn → Prop
  | [] => True
  | x :: D => dfHas D x.nm x.nt = false ∧ Uniq D
theorem has_tbF {n : List UInt8} {b : Bool} (hn : n.length ≤ maxLen) : ∀ (D : List Dfn) (m : TbDU) (i : Nat), IsMap m → NmOk D → Maps.has (tbF m i D) (tbkLit n b) = (Maps.has m (tbkLit n b) || dfHas D n b)
  | [], m, i, hm, h => by simp [tbF, dfHas]
  | x :: D, m, i, hm, h => by
    have hx := h x (by simp)
    rw [tbF, has_tbF hn D _ _ (hm.put _ _) (fun y hy => h y (by simp [hy]))]
    by_cases e : x.nm = n ∧ x.nt = b
    · obtain ⟨rfl, rfl⟩ := e
      rw [has_put_same hm (tbkLit_key hx)]
      simp [dfHas]
    · have hne : tbkLit n b ≠ tbkLit x.nm x.nt := fun e2 => e (by have := tbkLit_inj hn hx e2; exact ⟨this.1.symm, this.2.symm⟩)
      rw [has_put_other hne]
      have h9 : (decide (x.nm = n) && (x.nt == b)) = false := by
        cases h1 : decide (x.nm = n) && (x.nt == b) with
        | false => rfl
        | true =>
          simp at h1
          exact absurd h1 e
      show _ = (_ || ((decide (x.nm = n) && (x.nt == b)) || dfHas D n b))
      rw [h9, Bool.false_or]
theorem has_tbD {n : List UInt8} {b : Bool} (hn : n.length ≤ maxLen) {D : List Dfn} (h : NmOk D) : Maps.has (tbD D) (tbkLit n b) = dfHas D n b := by
  unfold tbD
  rw [has_tbF hn D _ _ isMap_empty h]
  rfl
theorem at_tbF_other {n : List UInt8} {b : Bool} (hn : n.length ≤ maxLen) (z : TbDU) : ∀ (D : List Dfn) (m : TbDU) (i : Nat), NmOk D → dfHas D n b = false → (tbF m i D).atKey (tbkLit n b) z = m.atKey (tbkLit n b) z
  | [], _, _, _, _ => rfl
  | x :: D, m, i, h, hh => by
    have hx := h x (by simp)
    have h2 : (decide (x.nm = n) && (x.nt == b)) = false ∧ dfHas D n b = false := by
      have : ((decide (x.nm = n) && (x.nt == b)) || dfHas D n b) = false := hh
      simpa using this
    have hne : tbkLit n b ≠ tbkLit x.nm x.nt := fun e2 => by
      have := tbkLit_inj hn hx e2
      have h1 := h2.1
      rw [← this.1, ← this.2] at h1
      simp at h1
    rw [tbF, at_tbF_other hn z D _ _ (fun y hy => h y (by simp [hy])) h2.2, atKey_put_other hne]
theorem at_tbF (z : TbDU) : ∀ (D : List Dfn) (m : TbDU) (i j : Nat) (hj : j < D.length), IsMap m → NmOk D → Uniq D → (tbF m i D).atKey (tbkLit D[j].nm D[j].nt) z = .lit (.int .i64 ((i + j : Nat) : Int))
  | x :: D, m, i, 0, _, hm, h, hu => by
    have hx := h x (by simp)
    show (tbF (m.put _ _) (i + 1) D).atKey (tbkLit x.nm x.nt) z = _
    rw [at_tbF_other hx z D _ _ (fun y hy => h y (by simp [hy])) hu.1, atKey_put_same hm (tbkLit_key hx)]
    rfl
  | x :: D, m, i, j + 1, hj, hm, h, hu => by
    have := at_tbF z D (m.put (tbkLit x.nm x.nt) (.lit (.int .i64 i))) (i + 1) j (by simpa using hj) (hm.put _ _) (fun y hy => h y (by simp [hy])) hu.2
    rw [show i + 1 + j = i + (j + 1) from by omega] at this
    exact this
theorem at_tbD {D : List Dfn} (z : TbDU) (h : NmOk D) (hu : Uniq D) {j : Nat} (hj : j < D.length) : (tbD D).atKey (tbkLit D[j].nm D[j].nt) z = .lit (.int .i64 (j : Int)) := by
  have := at_tbF z D (.map []) 0 j hj isMap_empty h hu
  rw [Nat.zero_add] at this
  exact this
/-- The one of that name and kind, and where it is. -/
theorem dfHas_at {D : List Dfn} {n : List UInt8} {b : Bool} (h : dfHas D n b = true) : ∃ j, ∃ hj : j < D.length, D[j].nm = n ∧ D[j].nt = b ∧ ∀ i (hi : i < j), ¬ (D[i].nm = n ∧ D[i].nt = b) := by
  induction D with
  | nil => cases h
  | cons x D ih =>
    by_cases e : x.nm = n ∧ x.nt = b
    · exact ⟨0, by simp, e.1, e.2, fun i hi => by omega⟩
    · have h2 : dfHas D n b = true := by
        have h1 : ((decide (x.nm = n) && (x.nt == b)) || dfHas D n b) = true := h
        rw [Bool.or_eq_true] at h1
        rcases h1 with h1 | h1
        · simp at h1
          exact absurd h1 e
        · exact h1
      obtain ⟨j, hj, e1, e2, h3⟩ := ih h2
      refine ⟨j + 1, by simpa using hj, e1, e2, fun i hi => ?_⟩
      cases i with
      | zero => exact e
      | succ i => exact h3 i (by omega)
end Go.Proofs.YteihmgcphbijhaaGreatDoor
namespace Go.Proofs.YteihmgcphbijhaaGreatDoor
open Go.RowKit Go.Maps
set_option linter.unusedSimpArgs false
set_option linter.unusedVariables false
set_option maxRecDepth 100000
/-- A table: the list of its definitions, a row of its own; its map. -/
structure TableIs (w : World) (B b : Nat) (v m : Value) (D : List Dfn) : Prop where
  blk : w.heap[b]? = some (.cells #[v, m] 199 (0, 0))
  base : B ≤ b
  row : w.ownsRow B 153 5 v D.length (flt dfC D)
  map : (m = .map none ∧ D = []) ∨ ∃ g, m = .map (some g) ∧ B ≤ g ∧ w.ownsMap Tryz.prog 201 (plainElem (H := Unit) Tryz.prog 3) g D.length (tbD D)
  nm : NmOk D
  uq : Uniq D
theorem map_block {w w' : World} {P : Program} {k : TypeId} {R : Value → Option (TbDU × List MemPlace)} {g n : Nat} {D : TbDU} (h : w.ownsMap P k R g n D) (e : w'.heap[g]? = w.heap[g]?) : w'.ownsMap P k R g n D := by
  obtain ⟨es, cl, hb, r⟩ := h
  exact ⟨es, cl, e.trans hb, r⟩
theorem TableIs.below {w w' : World} {B b : Nat} {v m : Value} {D : List Dfn} (h : TableIs w B b v m D) (hb : Below w.heap.size w w') : TableIs w' B b v m D := by
  refine ⟨(hb.block b (Array.getElem?_eq_some_iff.1 h.blk).1).trans h.blk, h.base, ownsRow_below h.row hb, ?_, h.nm, h.uq⟩
  rcases h.map with h1 | ⟨g, e, hg, hm⟩
  · exact .inl h1
  · exact .inr ⟨g, e, hg, map_block hm (hb.block g hm.lt)⟩
theorem TableIs.new {w : World} {B b : Nat} (h : w.heap[b]? = some (.cells #[.slice none 0 0, .map none] 199 (0, 0))) (hB : B ≤ b) : TableIs w B b (.slice none 0 0) (.map none) [] :=
  ⟨h, hB, World.ownsRow_nil _ _ _ _, .inl ⟨rfl, rfl⟩, fun x hx => by simp at hx, trivial⟩
/-- What the table's own doings leave as it was. -/
def TbTurn (w w' : World) (v : Value) : Prop := ∀ (g : Nat) (cs : Array Value) (t : TypeId) (fz : Nat × Nat), w.heap[g]? = some (.cells cs t fz) → t ≠ 199 → v.ownBlock ≠ some g → w'.heap[g]? = some (.cells cs t fz)
theorem TbTurn.row {w w' : World} {v u : Value} (h : TbTurn w w' v) {B : Nat} {e : TypeId} {s n : Nat} {xs : List Value} (k : w.ownsRow B e s u n xs) (he : e ≠ 199) (ha : ∀ g, u.ownBlock = some g → v.ownBlock ≠ some g) : w'.ownsRow B e s u n xs := by
  refine ⟨k.1, ?_⟩
  rcases k.2 with hn | ⟨g, cap, cur, rfl, hB, hg, rest⟩
  · exact .inl hn
  · exact .inr ⟨g, cap, cur, rfl, hB, h _ _ _ _ hg he (ha g rfl), rest⟩
end Go.Proofs.YteihmgcphbijhaaGreatDoor
namespace Go.Proofs.YteihmgcphbijhaaGreatDoor
open Go.RowKit Go.Maps
set_option linter.unusedSimpArgs false
set_option linter.unusedVariables false
set_option maxRecDepth 100000
theorem zeroInt (w : World) : (zeroValue 3).run Tryz.prog w = .ok (.int .i64 0) w := by kernel_rfl
theorem look_any {w : World} {B b : Nat} {v m : Value} {D : List Dfn} (h : TableIs w B b v m D) {n : List UInt8} {t : Bool} (hn : n.length ≤ maxLen) :
    ∃ c : Int, (∀ w' : World, (∀ g, g < w.heap.size → w'.heap[g]? = w.heap[g]?) → (Instr.lookup 197 m (keyV n t) true).run Tryz.prog w' = .ok (.tuple #[.int .i64 c, .bool (dfHas D n t)]) w') ∧ (∀ j (hj : j < D.length), D[j].nm = n → D[j].nt = t → c = j) := by
  have hkey := keyOf_key n t hn
  rcases h.map with ⟨rfl, rfl⟩ | ⟨g, rfl, hg, hm⟩
  · exact ⟨0, fun w' _ => (look_nil (w := w') true tbkeyLaw Tryz.underlying197 (zeroInt _) hkey).trans rfl, fun j hj => by simp at hj⟩
  · have one : ∀ w' : World, (∀ g, g < w.heap.size → w'.heap[g]? = w.heap[g]?) → ∃ c : Int, (Instr.lookup 197 (.map (some g)) (keyV n t) true).run Tryz.prog w' = .ok (.tuple #[.int .i64 c, .bool (dfHas D n t)]) w' ∧ (tbD D).atKey (tbkLit n t) (.lit (.int .i64 0)) = .lit (.int .i64 c) := by
      intro w' hh
      have hm' := map_block hm (hh g hm.lt)
      obtain ⟨u, ps, hrun, hu⟩ := hm'.look_ok tbkeyLaw Tryz.underlying197 (zeroInt _) (zd := .lit (.int .i64 0)) (zp := []) (plainElem_int Tryz.underlying3 (by decide)) hkey
      obtain ⟨c, rfl, hc, hwc⟩ := plainElem_int_inv Tryz.underlying3 hu
      rw [has_tbD hn h.nm] at hrun
      exact ⟨c, hrun, congrArg Prod.fst hc⟩
    obtain ⟨c, _, hc⟩ := one w (fun _ _ => rfl)
    refine ⟨c, fun w' hh => ?_, fun j hj e1 e2 => ?_⟩
    · obtain ⟨c', h1, h2⟩ := one w' hh
      rw [hc] at h2
      injection h2 with h2
      injection h2 with _ h2
      rw [h2]
      exact h1
    · subst e1 e2
      rw [at_tbD _ h.nm h.uq hj] at hc
      injection hc with hc3
      injection hc3 with _ hc4
      exact hc4.symm
end Go.Proofs.YteihmgcphbijhaaGreatDoor
namespace Go.Proofs.YteihmgcphbijhaaGreatDoor
open Go.RowKit Go.Maps
set_option linter.unusedSimpArgs false
set_option linter.unusedVariables false
set_option maxRecDepth 100000
theorem TbTurn.below {w w' : World} (h : Below w.heap.size w w') (v : Value) : TbTurn w w' v := fun g cs t fz hc _ _ => (h.block g (Array.getElem?_eq_some_iff.1 hc).1).trans hc
theorem TbTurn.trans {a b c : World} {v : Value} (h : TbTurn a b v) (k : TbTurn b c v) : TbTurn a c v := fun g cs t fz hc ht hv => k g cs t fz (h g cs t fz hc ht hv) ht hv
end Go.Proofs.YteihmgcphbijhaaGreatDoor
namespace Go.Proofs.YteihmgcphbijhaaGreatDoor
open Go.RowKit Go.Maps
set_option linter.unusedSimpArgs false
set_option linter.unusedVariables false
set_option maxRecDepth 100000
theorem dfHas_no {D : List Dfn} {n : List UInt8} {b : Bool} (h : dfHas D n b = false) : ∀ i (hi : i < D.length), ¬ (D[i].nm = n ∧ D[i].nt = b) := by
  intro i hi ⟨e1, e2⟩
  unfold dfHas at h
  rw [List.any_eq_false] at h
  have := h D[i] (List.getElem_mem hi)
  rw [e1, e2] at this
  simp at this
theorem find_none (s : ByteArray) (b : Bool) (w : World) (hs : s.size ≤ 1000) : Calls Tryz.prog 110 #[.pointer none, .string s, .bool b] w fun e w' => e = .returned (dfTib (noDfn, false)) ∧ Below w.heap.size w w' := by
  have cn := fun W => defName_any s W (by omega)
  have b0 : Below w.heap.size w (w.alloc (.cells #[.string ⟨#[]⟩, .string ⟨#[]⟩, .string ⟨#[]⟩, .string ⟨#[]⟩, .bool false] 153)) := (Below.refl _ w).alloc (Nat.le_refl _) _
  have HB0 := Lib.hid b0
  have HZ0 := Lib.hid (dfAt_zero w)
  have hs0 := alloc_size w (.cells #[.string ⟨#[]⟩, .string ⟨#[]⟩, .string ⟨#[]⟩, .string ⟨#[]⟩, .bool false] 153)
  clear b0
  go_enter Tryz.func110, Tryz.ntmps110
  go_wp2_with fail
  refine (cn _).mono ?_
  rintro e w1 ⟨rfl, b1⟩
  have HB1 := Lib.hid (HB0.out.then b1)
  have hz1 := HZ0.out.below b1
  obtain ⟨k0, k1, k2, k3, k4, kf⟩ := hz1.cells
  have HS := Lib.hid (hz1.set noDfn)
  have HW := Lib.hid (below_set5 HB1.out (Nat.le_refl _) (.string ⟨#[]⟩) (.string ⟨#[]⟩) (.string ⟨#[]⟩) (.string ⟨#[]⟩) (.bool false))
  clear hz1 b1 cn
  go_wp2
  (try simp only [Exit.inBlock, Exit.then])
  refine bodyPost_ret (v := dfTib (noDfn, false)) ?_ rfl ⟨rfl, HW.out⟩
  exact ret_df rfl (g := w.heap.size) HS.out rfl rfl
set_option maxHeartbeats 4000000 in
theorem find_any {w : World} {B b : Nat} {v m : Value} {D : List Dfn} (h : TableIs w B b v m D) (s : ByteArray) (nt : Bool) (hs : s.size ≤ 1000) (hl : D.length ≤ 1000) :
    Calls Tryz.prog 110 #[.pointer (some ⟨b, 0, none⟩), .string s, .bool nt] w fun e w' => e = .returned (dfTib (findL D s.data.toList nt)) ∧ Below w.heap.size w w' := by
  have cn := fun W => defName_any s W (by omega)
  unfold findL
  have hlen := dnL_len s.data.toList
  generalize dnL s.data.toList = y at *
  obtain ⟨n, ok⟩ := y
  simp only at cn hlen ⊢
  have hbl := (Array.getElem?_eq_some_iff.1 h.blk).1
  have HH := Lib.hid h
  clear h
  have b0 : Below w.heap.size w (w.alloc (.cells #[.string ⟨#[]⟩, .string ⟨#[]⟩, .string ⟨#[]⟩, .string ⟨#[]⟩, .bool false] 153)) := (Below.refl _ w).alloc (Nat.le_refl _) _
  have HB0 := Lib.hid b0
  have HZ0 := Lib.hid (dfAt_zero w)
  have hs0 := alloc_size w (.cells #[.string ⟨#[]⟩, .string ⟨#[]⟩, .string ⟨#[]⟩, .string ⟨#[]⟩, .bool false] 153)
  clear b0
  cases ok with
  | false =>
    rw [if_neg (by decide)]
    go_enter Tryz.func110, Tryz.ntmps110
    go_wp2_with fail
    refine (cn _).mono ?_
    rintro e w1 ⟨rfl, b1⟩
    have HB1 := Lib.hid (HB0.out.then b1)
    have hz1 := HZ0.out.below b1
    obtain ⟨k0, k1, k2, k3, k4, kf⟩ := hz1.cells
    have HS := Lib.hid (hz1.set noDfn)
    have HW := Lib.hid (below_set5 HB1.out (Nat.le_refl _) (.string ⟨#[]⟩) (.string ⟨#[]⟩) (.string ⟨#[]⟩) (.string ⟨#[]⟩) (.bool false))
    clear hz1 b1 cn
    go_wp2
    (try simp only [Exit.inBlock, Exit.then])
    refine bodyPost_ret (v := dfTib (noDfn, false)) ?_ rfl ⟨rfl, HW.out⟩
    exact ret_df rfl (g := w.heap.size) HS.out rfl rfl
  | true =>
    rw [if_pos rfl]
    by_cases hd : dfHas D n nt = true
    · obtain ⟨j, hj, e1, e2, hfst⟩ := dfHas_at hd
      rw [fdL_at hj e1 e2 hfst]
      obtain ⟨x, hx⟩ : ∃ x, x = D[j] := ⟨_, rfl⟩
      rw [← hx]
      have HX9 := Lib.hid hx
      clear hx
      have HE1 := Lib.hid e1
      have HE2 := Lib.hid e2
      have HJ := Lib.hid hj
      have HDD := Lib.hid hd
      clear e1 e2 hfst hd
      have hj2 : (j : Int) < D.length := by omega
      have hj3 : D.length ≤ 1000 := hl
      go_enter Tryz.func110, Tryz.ntmps110
      go_wp2_with fail
      refine (cn _).mono ?_
      rintro e w1 ⟨rfl, b1⟩
      have HB1 := Lib.hid (HB0.out.then b1)
      have hz1 := HZ0.out.below b1
      obtain ⟨k0, k1, k2, k3, k4, kf⟩ := hz1.cells
      have HS := Lib.hid (hz1.set x)
      have HW := Lib.hid (below_set5 HB1.out (Nat.le_refl _) (.string ⟨x.nm.toArray⟩) (.string ⟨x.url.toArray⟩) (.string ⟨x.ttl.toArray⟩) (.string ⟨x.txt.toArray⟩) (.bool x.nt))
      have HT := Lib.hid ((HH.out.below HB0.out).below b1)
      obtain ⟨A, cap, rfl, hrow⟩ := EltsAt.own dfC_length HT.out.row
      have hcap := hrow.le
      have hcm := hrow.cap
      unfold maxLen at hcm
      obtain ⟨c, hc, hcj⟩ := look_any HT.out (n := n) (t := nt) (by unfold maxLen; omega)
      have hce := hcj j HJ.out HE1.out HE2.out
      subst hce
      have hr1 := hc w1 (fun _ _ => rfl)
      rw [HDD.out] at hr1
      unfold keyV at hr1
      have c0 : w1.cell? ⟨b, 0, none⟩ = some (.slice A D.length cap) := (cell_of_row w1 b 0 _ _ (0, 0) HT.out.blk).trans rfl
      have c1 : w1.cell? ⟨b, 1, none⟩ = some m := (cell_of_row w1 b 1 _ _ (0, 0) HT.out.blk).trans rfl
      obtain ⟨gb, off, rfl, _, d0, d1, d2, d3, d4⟩ := DefsAt.cells5 hrow HJ.out
      clear hc hcj hrow b1 hz1 cn
      rw [← HX9.out] at d0 d1 d2 d3 d4
      go_wp2
      (try simp only [Exit.inBlock, Exit.then])
      refine bodyPost_ret (v := dfTib (x, true)) ?_ rfl ⟨rfl, HW.out⟩
      exact ret_df rfl (g := w.heap.size) HS.out rfl rfl
    · have hd : dfHas D n nt = false := by simpa using hd
      rw [fdL_no (dfHas_no hd)]
      have HDD := Lib.hid hd
      clear hd
      go_enter Tryz.func110, Tryz.ntmps110
      go_wp2_with fail
      refine (cn _).mono ?_
      rintro e w1 ⟨rfl, b1⟩
      have HB1 := Lib.hid (HB0.out.then b1)
      have hz1 := HZ0.out.below b1
      obtain ⟨k0, k1, k2, k3, k4, kf⟩ := hz1.cells
      have HS := Lib.hid (hz1.set noDfn)
      have HW := Lib.hid (below_set5 HB1.out (Nat.le_refl _) (.string ⟨#[]⟩) (.string ⟨#[]⟩) (.string ⟨#[]⟩) (.string ⟨#[]⟩) (.bool false))
      have HT := Lib.hid ((HH.out.below HB0.out).below b1)
      obtain ⟨c, hc, _⟩ := look_any HT.out (n := n) (t := nt) (by unfold maxLen; omega)
      have hr1 := hc w1 (fun _ _ => rfl)
      rw [HDD.out] at hr1
      unfold keyV at hr1
      have c1 : w1.cell? ⟨b, 1, none⟩ = some m := (cell_of_row w1 b 1 _ _ (0, 0) HT.out.blk).trans rfl
      clear hc b1 hz1 cn
      go_wp2
      (try simp only [Exit.inBlock, Exit.then])
      refine bodyPost_ret (v := dfTib (noDfn, false)) ?_ rfl ⟨rfl, HW.out⟩
      exact ret_df rfl (g := w.heap.size) HS.out rfl rfl
end Go.Proofs.YteihmgcphbijhaaGreatDoor
namespace Go.Proofs.YteihmgcphbijhaaGreatDoor
open Go.RowKit Go.Maps
set_option linter.unusedSimpArgs false
set_option linter.unusedVariables false
set_option maxRecDepth 100000
end Go.Proofs.YteihmgcphbijhaaGreatDoor
namespace Go.Proofs.YteihmgcphbijhaaGreatDoor
open Go.RowKit Go.Maps
set_option linter.unusedSimpArgs false
set_option linter.unusedVariables false
set_option maxRecDepth 100000
end Go.Proofs.YteihmgcphbijhaaGreatDoor

namespace Go.Proofs.YteihmgcphbijhaaGreatDoor
open Go.RowKit
set_option linter.unusedSimpArgs false
set_option linter.unusedVariables false
theorem tgBlank_any (r : Int) (w : World) :
    Calls Tryz.prog 142 #[.int .i32 r] w fun e w' => e = .returned (.bool (blkB r)) ∧ w = w' := by
  go_enter Tryz.func142, Tryz.ntmps142
  go_wp2
  all_goals (go_ret; exact ⟨ret_bool (by simp [blkB, *]), rfl⟩)
end Go.Proofs.YteihmgcphbijhaaGreatDoor

namespace Go.Proofs.YteihmgcphbijhaaGreatDoor
open Go.RowKit
set_option linter.unusedSimpArgs false
set_option linter.unusedVariables false
def BehRel (T : ByteArray) (w : World) (wr : World) : Prop :=
  ∃ k : Nat, k ≤ T.size ∧ wr.heap[w.heap.size]? = some (.stringIter T k) ∧ Below w.heap.size w wr ∧ k + ((T.data.toList.drop k).takeWhile fun b => blkB b.toNat).length = (T.data.toList.takeWhile fun b => blkB b.toNat).length
set_option maxHeartbeats 1000000 in
theorem behind_any (s : ByteArray) (f : Nat) (w : World) (hf : f ≤ s.size) (hs : s.size ≤ 1099511627776) :
    Calls Tryz.prog 140 #[.string s, .int .i64 f] w fun e w' => e = .returned (.int .i64 (behL s.data.toList f)) ∧ Below w.heap.size w w' := by
  have hsl := slice_lo s f f rfl hf
  have HV := Lib.hid (show behL s.data.toList f = f + ((s.extract f s.size).data.toList.takeWhile fun b => blkB b.toNat).length from by unfold behL; rw [drop_ext])
  have hz := ext_size s f
  go_enter Tryz.func140, Tryz.ntmps140
  generalize s.extract f s.size = T at *
  go_wp2_with fail
  go_loopw [] (fun wr => BehRel T w wr) (fun wr => T.size - wr.iterPos w.heap.size)
  case atStart => exact ⟨0, Nat.zero_le _, World.iter_heap w T 0, (Below.refl _ w).alloc (Nat.le_refl _) _, by simp⟩
  case round =>
    obtain ⟨k, hk, hit, hbw, hst⟩ := hrel
    by_cases hp : k < T.size
    · have hnx : ∀ ty, (Instr.next (.pointer (some ⟨w.heap.size, 0, none⟩)) true ty).run Tryz.prog wr = _ := fun ty => Lib.run_next_any_at wr w.heap.size T k ty hit hp
      have hit2 := Lib.iterAt_heap wr w.heap.size T k (k + (Utf8.decode T k).2) hit
      have hbw2 := Lib.below_iterAt hbw (k := w.heap.size) (by omega) T (k + (Utf8.decode T k).2)
      have Hit := Lib.hid hit
      rw [get_list T k hp] at hst
      clear hit hbw
      by_cases ha : T[k].toNat < 128
      · have hd : Utf8.decode T k = (T[k].toNat, 1) := decode_ascii T k hp ha
        rw [hd] at hnx hit2 hbw2
        simp only at hnx hit2 hbw2
        clear hd
        have cb := fun w => tgBlank_any T[k].toNat w
        generalize T[k] = b at *
        cases hb : blkB b.toNat with
        | true =>
          rw [hb] at cb
          rw [takeW_cons hb] at hst
          have HS := Lib.hid hst
          have CB := Lib.hid cb
          clear hst cb hb
          go_wp2_with (go_at_call 142; refine (CB.out _).mono ?_; rintro e w' ⟨rfl, rfl⟩)
          go_roundw
          case rel => exact ⟨k + 1, by omega, hit2, hbw2, by have := HS.out; omega⟩
          case measure => simp only [World.iterPos, hit2, Hit.out]; omega
        | false =>
          rw [hb] at cb
          rw [takeW_stop hb] at hst
          have HS := Lib.hid (show behL s.data.toList f = f + k from by rw [HV.out, ← hst]; rfl)
          have CB := Lib.hid cb
          clear hst cb hb
          go_wp2_with (go_at_call 142; refine (CB.out _).mono ?_; rintro e w' ⟨rfl, rfl⟩)
          go_ret
          exact ⟨by rw [HS.out]; rfl, hbw2⟩
      · obtain ⟨d2, d3⟩ := decode_high T k hp (by omega)
        have cb := fun w => tgBlank_any (Utf8.decode T k).1 w
        rw [blkB_high (by omega)] at cb
        rw [takeW_stop (blkB_high (by omega))] at hst
        have HS := Lib.hid (show behL s.data.toList f = f + k from by rw [HV.out, ← hst]; rfl)
        have CB := Lib.hid cb
        clear hst cb ha
        generalize (Utf8.decode T k).1 = r at *
        generalize (Utf8.decode T k).2 = d at *
        go_wp2_with (go_at_call 142; refine (CB.out _).mono ?_; rintro e w' ⟨rfl, rfl⟩)
        go_ret
        exact ⟨by rw [HS.out]; rfl, hbw2⟩
    · have hnx : ∀ ty, (Instr.next (.pointer (some ⟨w.heap.size, 0, none⟩)) true ty).run Tryz.prog wr = _ := fun ty => Lib.run_next_end_at wr w.heap.size T k ty hit hp
      rw [drop_all' T k hp] at hst
      have HS := Lib.hid (show behL s.data.toList f = s.size from by
        rw [HV.out, ← hst]
        show f + (k + 0) = s.size
        omega)
      clear hst
      go_wp2
      go_ret
      exact ⟨by rw [HS.out]; rfl, hbw⟩
end Go.Proofs.YteihmgcphbijhaaGreatDoor

namespace Go.Proofs.YteihmgcphbijhaaGreatDoor
open Go.RowKit
set_option linter.unusedSimpArgs false
set_option linter.unusedVariables false
def ttib (x : List UInt8 × List UInt8 × Nat × Bool) : Value := .tuple #[.string ⟨x.1.toArray⟩, .string ⟨x.2.1.toArray⟩, .int .i64 x.2.2.1, .bool x.2.2.2]
set_option maxHeartbeats 2000000 in
set_option maxRecDepth 100000 in
theorem inside_any (s : ByteArray) (w : World) (hn : NamedIs w) (hs : s.size ≤ 1099511627776) :
    Calls Tryz.prog 113 #[.string s] w fun e w' => e = .returned (ttib (insideL s.data.toList)) ∧ Below w.heap.size w w' := by
  have HLL := Lib.hid (show s.data.toList.length = s.size from by simp)
  have p1 := fun w => Tryz.strings_HasPrefix s ⟨#[40]⟩ w
  rw [show (⟨#[40]⟩ : ByteArray).data.toList = [40] from rfl] at p1
  cases h1 : Lib.hasPrefix s.data.toList [40] with
  | false =>
    rw [h1] at p1
    have HR := Lib.hid (show insideL s.data.toList = ([], [], 0, false) from by unfold insideL; rw [if_neg (by rw [h1]; simp)])
    have P1 := Lib.hid p1
    clear p1 h1 hn
    go_enter Tryz.func113, Tryz.ntmps113
    go_wp2_with fail
    refine (P1.out _).mono ?_
    rintro e w' ⟨rfl, rfl⟩
    go_wp2
    refine bodyPost_ret (results_tmp4 rfl _ _ _) rfl ?_
    exact ⟨by rw [HR.out]; rfl, Below.refl _ _⟩
  | true =>
    rw [h1] at p1
    obtain ⟨h0, _⟩ := prefix_first h1
    have HR := Lib.hid (show insideL s.data.toList = insL2 s.data.toList (destL (s.data.toList.drop (behL s.data.toList 1))).1 (behL s.data.toList (behL s.data.toList 1 + (destL (s.data.toList.drop (behL s.data.toList 1))).2.1)) from by unfold insideL; rw [if_pos h1])
    have c1 := behind_any s 1 w (by omega) hs
    rw [show ((1 : Nat) : Int) = 1 from rfl] at c1
    have k1 := behL_le s.data.toList 1 (by rw [HLL.out]; omega)
    rw [HLL.out] at k1
    generalize behL s.data.toList 1 = a1 at *
    have hsl1 := slice_lo s a1 a1 rfl k1.2
    have c2 := fun W hn => dest_any (s.extract a1 s.size) W hn (by rw [ext_size]; omega)
    rw [drop_ext] at c2
    have k2 := destL_le (s.data.toList.drop a1)
    rw [List.length_drop, HLL.out] at k2
    generalize destL (s.data.toList.drop a1) = x at *
    obtain ⟨U, z, u⟩ := x
    unfold tib at c2
    simp only at c2 k2 HR
    have c3 := fun W => behind_any s (a1 + z) W (by omega) hs
    have k3 := behL_le s.data.toList (a1 + z) (by rw [HLL.out]; omega)
    rw [HLL.out] at k3
    generalize behL s.data.toList (a1 + z) = a2 at *
    have hix := index_str s ((a2 : Int) - 1) (a2 - 1) (by omega) (by omega)
    have c4 := fun W => tgBlank_any s[a2 - 1].toNat W
    have hbt : s[a2 - 1].toNat < 256 := s[a2 - 1].toNat_lt
    have HG := Lib.hid (getD_str s (a2 - 1) (by omega))
    have P1 := Lib.hid p1
    have HN := Lib.hid hn
    have C2 := Lib.hid c2
    rw [show ((a1 + z : Nat) : Int) = (a1 : Int) + (z : Int) from by omega] at c3
    have C3 := Lib.hid c3
    clear p1 h1 hn c2 c3
    cases hb : blkB s[a2 - 1].toNat with
    | false =>
      rw [hb] at c4
      have C4 := Lib.hid c4
      have hsl2 := slice_lo s a2 a2 rfl k3.2
      have p2 := fun w => Tryz.strings_HasPrefix (s.extract a2 s.size) ⟨#[41]⟩ w
      rw [show (⟨#[41]⟩ : ByteArray).data.toList = [41] from rfl, drop_ext] at p2
      have HR2 := Lib.hid (show insideL s.data.toList = shutL s.data.toList U [] a2 from by rw [HR.out]; unfold insL2; rw [HG.out, if_neg (by rw [hb]; simp)])
      clear HR HG hb c4
      generalize s[a2 - 1] = b at *
      cases h2 : Lib.hasPrefix (s.data.toList.drop a2) [41] with
      | false =>
        rw [h2] at p2
        have HR3 := Lib.hid (show insideL s.data.toList = ([], [], 0, false) from by rw [HR2.out]; unfold shutL; rw [if_neg (by rw [h2]; simp)])
        have P2 := Lib.hid p2
        clear HR2 h2 p2
        go_enter Tryz.func113, Tryz.ntmps113
        go_wp2_with fail
        refine (P1.out _).mono ?_
        rintro e w' ⟨rfl, rfl⟩
        go_wp2_with fail
        refine c1.mono ?_
        rintro e w1 ⟨rfl, b1⟩
        go_wp2_with fail
        refine (C2.out _ (HN.out.below b1)).mono ?_
        rintro e w2 ⟨rfl, b2⟩
        have q2 := b1.then b2
        go_wp2_with fail
        refine (C3.out _).mono ?_
        rintro e w3 ⟨rfl, b3⟩
        have q3 := q2.then b3
        go_wp2_with fail
        refine (C4.out _).mono ?_
        rintro e w' ⟨rfl, rfl⟩
        go_wp2_with fail
        refine (P2.out _).mono ?_
        rintro e w' ⟨rfl, rfl⟩
        go_wp2
        refine bodyPost_ret (results_tmp4 rfl _ _ _) rfl ?_
        exact ⟨by rw [HR3.out]; rfl, q3⟩
      | true =>
        rw [h2] at p2
        have HR3 := Lib.hid (show insideL s.data.toList = (U, [], a2 + 1, true) from by rw [HR2.out]; unfold shutL; rw [if_pos h2])
        have P2 := Lib.hid p2
        clear HR2 h2 p2
        go_enter Tryz.func113, Tryz.ntmps113
        go_wp2_with fail
        refine (P1.out _).mono ?_
        rintro e w' ⟨rfl, rfl⟩
        go_wp2_with fail
        refine c1.mono ?_
        rintro e w1 ⟨rfl, b1⟩
        go_wp2_with fail
        refine (C2.out _ (HN.out.below b1)).mono ?_
        rintro e w2 ⟨rfl, b2⟩
        have q2 := b1.then b2
        go_wp2_with fail
        refine (C3.out _).mono ?_
        rintro e w3 ⟨rfl, b3⟩
        have q3 := q2.then b3
        go_wp2_with fail
        refine (C4.out _).mono ?_
        rintro e w' ⟨rfl, rfl⟩
        go_wp2_with fail
        refine (P2.out _).mono ?_
        rintro e w' ⟨rfl, rfl⟩
        go_wp2
        refine bodyPost_ret (results_tmp4 rfl _ _ _) rfl ?_
        exact ⟨by rw [HR3.out]; rfl, q3⟩
    | true =>
      rw [hb] at c4
      have C4 := Lib.hid c4
      have hsl2 := slice_lo s a2 a2 rfl k3.2
      have c5 := fun W hn => title_any (s.extract a2 s.size) W hn (by rw [ext_size]; omega)
      rw [drop_ext] at c5
      have k5 := titleL_le (s.data.toList.drop a2)
      rw [List.length_drop, HLL.out] at k5
      have HR2 := Lib.hid (show insideL s.data.toList = shutL s.data.toList U (titleL (s.data.toList.drop a2)).1 (behL s.data.toList (a2 + (titleL (s.data.toList.drop a2)).2.1)) from by rw [HR.out]; unfold insL2; rw [HG.out, if_pos hb])
      clear HR HG hb c4
      generalize s[a2 - 1] = b at *
      generalize titleL (s.data.toList.drop a2) = y at *
      obtain ⟨T, z2, u2⟩ := y
      unfold tib at c5
      simp only at c5 k5 HR2
      have C5 := Lib.hid c5
      clear c5
      have c6 := fun W => behind_any s (a2 + z2) W (by omega) hs
      have k6 := behL_le s.data.toList (a2 + z2) (by rw [HLL.out]; omega)
      rw [HLL.out] at k6
      generalize behL s.data.toList (a2 + z2) = a3 at *
      rw [show ((a2 + z2 : Nat) : Int) = (a2 : Int) + (z2 : Int) from by omega] at c6
      have C6 := Lib.hid c6
      clear c6
      have hsl3 := slice_lo s a3 a3 rfl k6.2
      have p2 := fun w => Tryz.strings_HasPrefix (s.extract a3 s.size) ⟨#[41]⟩ w
      rw [show (⟨#[41]⟩ : ByteArray).data.toList = [41] from rfl, drop_ext] at p2
      cases h2 : Lib.hasPrefix (s.data.toList.drop a3) [41] with
      | false =>
        rw [h2] at p2
        have HR3 := Lib.hid (show insideL s.data.toList = ([], [], 0, false) from by rw [HR2.out]; unfold shutL; rw [if_neg (by rw [h2]; simp)])
        have P2 := Lib.hid p2
        clear HR2 h2 p2
        go_enter Tryz.func113, Tryz.ntmps113
        go_wp2_with fail
        refine (P1.out _).mono ?_
        rintro e w' ⟨rfl, rfl⟩
        go_wp2_with fail
        refine c1.mono ?_
        rintro e w1 ⟨rfl, b1⟩
        go_wp2_with fail
        refine (C2.out _ (HN.out.below b1)).mono ?_
        rintro e w2 ⟨rfl, b2⟩
        have q2 := b1.then b2
        go_wp2_with fail
        refine (C3.out _).mono ?_
        rintro e w3 ⟨rfl, b3⟩
        have q3 := q2.then b3
        go_wp2_with fail
        refine (C4.out _).mono ?_
        rintro e w' ⟨rfl, rfl⟩
        go_wp2_with fail
        refine (C5.out _ (HN.out.below q3)).mono ?_
        rintro e w4 ⟨rfl, b4⟩
        have q4 := q3.then b4
        go_wp2_with fail
        refine (C6.out _).mono ?_
        rintro e w5 ⟨rfl, b5⟩
        have q5 := q4.then b5
        go_wp2_with fail
        refine (P2.out _).mono ?_
        rintro e w' ⟨rfl, rfl⟩
        go_wp2
        refine bodyPost_ret (results_tmp4 rfl _ _ _) rfl ?_
        exact ⟨by rw [HR3.out]; rfl, q5⟩
      | true =>
        rw [h2] at p2
        have HR3 := Lib.hid (show insideL s.data.toList = (U, T, a3 + 1, true) from by rw [HR2.out]; unfold shutL; rw [if_pos h2])
        have P2 := Lib.hid p2
        clear HR2 h2 p2
        go_enter Tryz.func113, Tryz.ntmps113
        go_wp2_with fail
        refine (P1.out _).mono ?_
        rintro e w' ⟨rfl, rfl⟩
        go_wp2_with fail
        refine c1.mono ?_
        rintro e w1 ⟨rfl, b1⟩
        go_wp2_with fail
        refine (C2.out _ (HN.out.below b1)).mono ?_
        rintro e w2 ⟨rfl, b2⟩
        have q2 := b1.then b2
        go_wp2_with fail
        refine (C3.out _).mono ?_
        rintro e w3 ⟨rfl, b3⟩
        have q3 := q2.then b3
        go_wp2_with fail
        refine (C4.out _).mono ?_
        rintro e w' ⟨rfl, rfl⟩
        go_wp2_with fail
        refine (C5.out _ (HN.out.below q3)).mono ?_
        rintro e w4 ⟨rfl, b4⟩
        have q4 := q3.then b4
        go_wp2_with fail
        refine (C6.out _).mono ?_
        rintro e w5 ⟨rfl, b5⟩
        have q5 := q4.then b5
        go_wp2_with fail
        refine (P2.out _).mono ?_
        rintro e w' ⟨rfl, rfl⟩
        go_wp2
        refine bodyPost_ret (results_tmp4 rfl _ _ _) rfl ?_
        exact ⟨by rw [HR3.out]; rfl, q5⟩
end Go.Proofs.YteihmgcphbijhaaGreatDoor
