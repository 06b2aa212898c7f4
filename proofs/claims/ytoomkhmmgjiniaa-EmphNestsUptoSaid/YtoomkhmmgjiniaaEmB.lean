/-
  Package emph: add, Text: the text of nodes.
-/
import Derived.Test.YtoomkhmmgjiniaaEmA
namespace Go.Proofs.Ytoomkhmmgjiniaa
open Go.RowKit
set_option linter.unusedSimpArgs false
set_option linter.unusedVariables false
set_option maxRecDepth 100000

theorem em_width (s : ByteArray) (k : Nat) (h : k < s.size) : 1 ≤ (Utf8.decode s k).2 := by
  by_cases ha : s[k].toNat < 128
  · rw [decode_ascii s k h ha]; exact Nat.le_refl _
  · exact (decode_high s k h (by omega)).2
theorem em_strcells (l acc : List UInt8) (s : ByteArray) (h : s.data.toList = l) : Lib.byteCells acc ++ Lib.strCells s = Lib.byteCells (acc ++ l) := by
  rw [Lib.byteCells_append, ← h]; rfl
theorem em_extract (s : ByteArray) (t k : Nat) : (s.extract t k).data.toList = (s.data.toList.take k).drop t := by simp [List.drop_take]
theorem em_isB {T e : TypeId} {B b : Nat} {bs : List Value} {w w' : World} (h : Lib.IsBuilderF T e B b bs w) (hb : Below w.heap.size w w') : Lib.IsBuilderF T e B b bs w' := by
  have go : ∀ p, Lib.BuilderAtF T e B b p bs w → Lib.BuilderAtF T e B b p bs w' := by
    rintro p ⟨hB, v, hbk, hown, hne⟩
    refine ⟨hB, v, (hb.block b (Array.getElem?_eq_some_iff.1 hbk).1).trans hbk, ⟨hown.1, ?_⟩, hne⟩
    rcases hown.2 with hn | ⟨g, cap, cur, fz, hv, hbg, hg, rest⟩
    · exact .inl hn
    · exact .inr ⟨g, cap, cur, fz, hv, hbg, (hb.block g (Array.getElem?_eq_some_iff.1 hg).1).trans hg, rest⟩
  exact h.elim (fun x => .inl (go _ x)) (fun x => .inr (go _ x))

def AddRel (B b : Nat) (l : List UInt8) (s : ByteArray) (w : World) (z : Value) (wr : World) : Prop :=
  ∃ k t : Nat, z = .int .i64 t ∧ t ≤ k ∧ k ≤ s.size ∧ wr.heap[w.heap.size]? = some (.stringIter s k) ∧ Lib.IsBuilderF 51 5 B b (Lib.byteCells (l ++ s.data.toList.take t)) wr ∧ Below B w wr
set_option maxHeartbeats 4000000 in
theorem add_any (B b : Nat) (l : List UInt8) (s : ByteArray) (w : World) (hI0 : Lib.IsBuilderF 51 5 B b (Lib.byteCells l) w) (hBw : B ≤ w.heap.size) (hbw0 : b < w.heap.size) (hs : l.length + s.size ≤ 140737488355328) :
    Calls Try.prog 19 #[.pointer (some ⟨b, 0, none⟩), .string s] w fun e w' => e = .returned (.tuple #[]) ∧ Lib.IsBuilderF 51 5 B b (Lib.byteCells (l ++ s.data.toList)) w' ∧ Below B w w' := by
  have HI0 := Lib.hid hI0
  clear hI0
  go_enter Try.func19, Try.ntmps19
  go_wp2_with fail
  go_loopw [4] (fun z wr => AddRel B b l s w z wr) (fun _ wr => s.size - wr.iterPos w.heap.size)
  case atStart =>
    refine ⟨0, 0, rfl, Nat.le_refl _, Nat.zero_le _, World.iter_heap w s 0, ?_, (Below.refl _ w).alloc hBw _⟩
    rw [List.take_zero, List.append_nil]
    exact HI0.out.alloc _
  case round =>
    obtain ⟨k, t, rfl, ht, hk, hit, hI, hbw⟩ := hrel
    have hsz : w.heap.size < wr.heap.size := (Array.getElem?_eq_some_iff.1 hit).1
    have hlen : (s.data.toList.take t).length ≤ t := by rw [List.length_take]; omega
    by_cases hp : k < s.size
    · have hnx : ∀ ty, (Instr.next (.pointer (some ⟨w.heap.size, 0, none⟩)) true ty).run Try.prog wr = _ := fun ty => Lib.run_next_any_at wr w.heap.size s k ty hit hp
      have hwd := em_width s k hp
      have hd2 := (decode_tail s k hp).1
      have hI2 := hI.iterAt hit (k + (Utf8.decode s k).2)
      have hit2 := Lib.iterAt_heap wr w.heap.size s k (k + (Utf8.decode s k).2) hit
      have hbw2 := Lib.below_iterAt hbw (k := w.heap.size) (by omega) s (k + (Utf8.decode s k).2)
      have hsz2 : w.heap.size < (wr.iterAt w.heap.size s (k + (Utf8.decode s k).2)).heap.size := by rw [Lib.iterAt_size]; omega
      have Hit := Lib.hid hit
      clear hit hbw hI
      have hsl := slice_lohi s t k t k rfl rfl ht (by omega)
      have hws := Try.Builder_WriteString_k B b _ (s.extract t k) _ hI2 (by rw [Lib.byteCells_length, List.length_append, ByteArray.size_extract]; omega) (by omega)
      rw [em_strcells _ _ _ (em_extract s t k), List.append_assoc, show s.data.toList.take t ++ (s.data.toList.take k).drop t = s.data.toList.take k from by
        conv => rhs; rw [← List.take_append_drop t (s.data.toList.take k), List.take_take, Nat.min_eq_left ht]] at hws
      have HW := Lib.hid hws
      clear hws hI2
      generalize hdd : Utf8.decode s k = d at *
      obtain ⟨d1, d2⟩ := d
      simp only at *
      go_wp2_with fail
      refine HW.out.mono ?_
      rintro e w2 ⟨rfl, g2, b2, k2⟩
      have hit3 := Lib.hid (k2.iter hit2 (by omega))
      have hs4 := b2.size
      have hB2 := Lib.hid (hbw2.trans b2)
      have HG := Lib.hid g2
      clear g2 hbw2
      go_wp2
      go_roundw
      case rel => exact ⟨k + d2, k, rfl, by omega, hd2, hit3.out, Or.inr HG.out, hB2.out⟩
      case measure => simp only [World.iterPos, hit3.out, Hit.out]; omega
    · have hnx : ∀ ty, (Instr.next (.pointer (some ⟨w.heap.size, 0, none⟩)) true ty).run Try.prog wr = _ := fun ty => Lib.run_next_end_at wr w.heap.size s k ty hit hp
      obtain rfl : k = s.size := by omega
      have hsl := slice_lo s t t rfl ht
      have hws := Try.Builder_WriteString_k B b _ (s.extract t s.size) _ hI (by rw [Lib.byteCells_length, List.length_append, ByteArray.size_extract]; omega) (by omega)
      rw [em_strcells _ _ _ (em_extract s t s.size), List.append_assoc, show s.data.toList.take t ++ (s.data.toList.take s.size).drop t = s.data.toList from by
        rw [List.take_of_length_le (l := s.data.toList) (i := s.size) (by simp)]; exact List.take_append_drop t _] at hws
      have HW := Lib.hid hws
      clear hws hI
      go_wp2_with fail
      refine HW.out.mono ?_
      rintro e w2 ⟨rfl, g2, b2, k2⟩
      have HG := Lib.hid (show Lib.IsBuilderF 51 5 B b (Lib.byteCells (l ++ s.data.toList)) w2 from Or.inr g2)
      clear g2
      go_wp2
      go_end0
      exact ⟨rfl, HG.out, hbw.trans b2⟩

def TextRel (X : List Iln) (w : World) (i : Value) (wr : World) : Prop :=
  ∃ k : Nat, i = .int .i64 k ∧ k ≤ X.length ∧ Lib.IsBuilderF 51 5 w.heap.size w.heap.size (Lib.byteCells (textI (X.take k))) wr ∧ Below w.heap.size w wr ∧ w.heap.size < wr.heap.size
theorem textI_take (X : List Iln) (k : Nat) (h : k < X.length) : textI (X.take (k + 1)) = textI (X.take k) ++ ilText X[k] := by
  rw [List.take_succ_eq_append_getElem h, textI_append]; simp [textI]
theorem textI_le (X : List Iln) (k : Nat) : (textI (X.take k)).length ≤ (textI X).length := by
  have := congrArg List.length (show textI X = textI (X.take k) ++ textI (X.drop k) from by rw [← textI_append, List.take_append_drop])
  rw [List.length_append] at this
  omega
theorem em_ilV {w : World} {A : Option Addr} {cap : Nat} {X : List Iln} (h : InlsAt w A cap X) {k : Nat} (hk : k < X.length) : ∃ b off, A = some ⟨b, off, none⟩ ∧ b < w.heap.size ∧ w.cell? ⟨b, off + k * 5, none⟩ = some (.int .i64 X[k].kd) := by
  obtain ⟨b, off, e, hb, c0, _⟩ := h.cells5 hk
  exact ⟨b, off, e, hb, c0⟩
set_option maxHeartbeats 4000000 in
theorem text_inl (A : Option Addr) (cap : Nat) (X : List Iln) (w : World) (hrow : InlsAt w A cap X) (hlen : (textI X).length ≤ 140737488355328) :
    Calls Try.prog 10 #[.slice A X.length cap] w fun e w' => e = .returned (.string ⟨(textI X).toArray⟩) ∧ Below w.heap.size w w' := by
  have hl1 := hrow.le
  have hl2 := hrow.cap
  unfold maxLen at hl2
  go_enter Try.func10, Try.ntmps10
  go_wp2_with fail
  go_loopw [8] (fun i wr => TextRel X w i wr) (fun i wr => X.length - (intOf i).toNat)
  case atStart =>
    refine ⟨0, rfl, Nat.zero_le _, Lib.IsBuilderF.of (Lib.fresh_isBuilder 51 5 w), (Below.refl _ w).alloc (Nat.le_refl _) _, (by show _ < (w.heap.push _).size; simp)⟩
  case round =>
    obtain ⟨k, rfl, hk, hI, hbw, hsz⟩ := hrel
    by_cases hp : k < X.length
    · obtain ⟨b, off, rfl, hb, c0, c1, c2, c3, c4⟩ := InlsAt.cells5 (EltsAt.below hrow hbw) hp
      have HJ := Lib.hid (textI_take X k hp)
      have h1 := textI_le X (k + 1)
      rw [HJ.out, List.length_append] at h1
      have hsh := fun w1 => shown_any X[k] w1
      have h2 : (⟨(ilText X[k]).toArray⟩ : ByteArray).size = (ilText X[k]).length := rfl
      generalize hx : X[k] = x at *
      obtain ⟨kd, dp, txt, url, ttl⟩ := x
      have HS := Lib.hid hsh
      have HI := Lib.hid hI
      have HX := Lib.hid hx
      clear hsh hI hx
      unfold ilV at HS
      dsimp only at HS c0 c1 c2 c3 c4
      go_wp2_with fail
      refine (HS.out _).mono ?_
      rintro e w1 ⟨rfl, b1⟩
      have hs1 := b1.size
      have hsA := alloc_size wr (.cells #[.int .i64 kd, .int .i64 dp, .string ⟨txt.toArray⟩, .string ⟨url.toArray⟩, .string ⟨ttl.toArray⟩] 30)
      have hI1 := em_isB (em_isB HI.out ((Below.refl _ wr).alloc (Nat.le_refl _) _)) b1
      have hb1 : Below w.heap.size w w1 := (hbw.alloc (by omega) _).trans (b1.mono (by omega))
      have HA := Lib.hid (add_any w.heap.size w.heap.size _ ⟨(ilText ⟨kd, dp, txt, url, ttl⟩).toArray⟩ w1 hI1 (by omega) (by omega) (by rw [h2]; omega))
      rw [show (⟨(ilText ⟨kd, dp, txt, url, ttl⟩).toArray⟩ : ByteArray).data.toList = ilText ⟨kd, dp, txt, url, ttl⟩ from rfl, ← HJ.out] at HA
      clear hI1
      go_wp2_with fail
      refine HA.out.mono ?_
      rintro e w2 ⟨rfl, hI2, b2⟩
      have hs2 := b2.size
      have HI2 := Lib.hid hI2
      clear hI2
      go_wp2
      go_roundw
      case rel => exact ⟨k + 1, by go_num, by omega, HI2.out, hb1.trans b2, by omega⟩
      case measure => simp [intOf]; omega
    · obtain rfl : k = X.length := by omega
      rw [List.take_length] at hI
      go_wp2_with fail
      refine (Try.Builder_String_any_k w.heap.size w.heap.size _ _ hI (by omega)).mono ?_
      rintro e w1 ⟨rfl, _, b1, _⟩
      go_wp2
      go_ret
      exact ⟨rfl, hbw.trans b1⟩

end Go.Proofs.Ytoomkhmmgjiniaa
