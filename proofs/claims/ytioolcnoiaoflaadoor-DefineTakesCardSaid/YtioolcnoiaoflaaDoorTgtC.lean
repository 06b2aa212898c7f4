/-
  Package target: between: what it answers, in plain words.
-/
import Derived.Test.YtioolcnoiaoflaaDoorTgtB
import Derived.Test.YtioolcnoiaoflaaDoorTgtPp
import Derived.OwnWalk
namespace Go.Proofs.YtioolcnoiaoflaaDoor
open Go.RowKit
set_option linter.unusedSimpArgs false
set_option linter.unusedVariables false

theorem ret_sib {a b : ByteArray} {c d : Int} {e f : Bool} (h : a = b) (k : c = d) (m : e = f) : Ending.returned (.tuple #[.string a, .int .i64 c, .bool e]) = .returned (.tuple #[.string b, .int .i64 d, .bool f]) := by rw [h, k, m]
/-- A text, how many bytes, and whether it is there. -/
def tib (x : List UInt8 × Nat × Bool) : Value := .tuple #[.string ⟨x.1.toArray⟩, .int .i64 x.2.1, .bool x.2.2]
theorem hasB_mem (nv : List UInt8) (b : UInt8) : hasB nv b.toNat = decide (b ∈ nv) := by
  unfold hasB
  rw [Bool.eq_iff_iff, List.any_eq_true, decide_eq_true_iff]
  constructor
  · rintro ⟨x, hx, he⟩
    have : x = b := UInt8.toNat_inj.1 (by have := beq_iff_eq.1 he; omega)
    rwa [← this]
  · intro h
    exact ⟨b, h, by simp⟩
def BtwRel (s : ByteArray) (c : UInt8) (nv : List UInt8) (w : World) (z : Value) (wr : World) : Prop :=
  ∃ (k : Nat) (bh : Bool), z = .bool bh ∧ k ≤ s.size ∧ wr.heap[w.heap.size]? = some (.stringIter s k) ∧ Below w.heap.size w wr ∧ (k = 0 ∧ bh = false ∨ 1 ≤ k ∧ btwGo c nv (s.data.toList.drop k) bh k = btwGo c nv (s.data.toList.drop 1) false 1)
theorem btwL_none {c : UInt8} {nv l : List UInt8} (h : btwGo c nv (l.drop 1) false 1 = none) : tib (btwL c nv l) = .tuple #[.string ByteArray.empty, .int .i64 0, .bool false] := by
  unfold btwL; rw [h]; rfl
theorem btwL_some {c : UInt8} {nv l : List UInt8} {i : Nat} (h : btwGo c nv (l.drop 1) false 1 = some i) : tib (btwL c nv l) = .tuple #[.string ⟨(unL ((l.take i).drop 1)).toArray⟩, .int .i64 ((i : Int) + 1), .bool true] := by
  unfold btwL; rw [h]; rfl
theorem part_str (s : ByteArray) (i j : Nat) : (s.extract i j).data.toList = (s.data.toList.take j).drop i := by
  rw [seg_list, segL, List.drop_take]
set_option maxHeartbeats 4000000 in
set_option maxRecDepth 100000 in
theorem between_any (s : ByteArray) (c : UInt8) (nv : ByteArray) (w : World) (hn : NamedIs w) (h0 : 0 < s.size) (hb0 : s[0].toNat < 128) (hc : c.toNat < 128) (hnv : ∀ b ∈ nv.data.toList, b.toNat < 128) (hz : nv.size ≤ 1000) (hs : s.size ≤ 1099511627776) :
    Calls Tryd.prog 38 #[.string s, .int .i32 c.toNat, .string nv] w fun e w' => e = .returned (tib (btwL c nv.data.toList s.data.toList)) ∧ Below w.heap.size w w' := by
  have HN := Lib.hid hn
  have cc := fun (r : Int) (w : World) (h0 : 0 ≤ r) (h9 : r ≤ 1114111) => containsRune_any nv r w h0 h9 hnv hz
  have HCC := Lib.hid cc
  have HNV := Lib.hid hnv
  clear hn cc hnv
  go_enter Tryd.func38, Tryd.ntmps38
  go_wp2_with fail
  go_loopw [9] (fun z wr => BtwRel s c nv.data.toList w z wr) (fun _ wr => s.size - wr.iterPos w.heap.size)
  case atStart => exact ⟨0, false, rfl, Nat.zero_le _, World.iter_heap w s 0, (Below.refl _ w).alloc (Nat.le_refl _) _, Or.inl ⟨rfl, rfl⟩⟩
  case round =>
    obtain ⟨k, bh, rfl, hk, hit, hbw, hst⟩ := hrel
    have hsz : w.heap.size < wr.heap.size := (Array.getElem?_eq_some_iff.1 hit).1
    by_cases hp : k < s.size
    · have hnx : ∀ ty, (Instr.next (.pointer (some ⟨w.heap.size, 0, none⟩)) true ty).run Tryd.prog wr = _ := fun ty => Lib.run_next_any_at wr w.heap.size s k ty hit hp
      have hit2 := Lib.iterAt_heap wr w.heap.size s k (k + (Utf8.decode s k).2) hit
      have hbw2 := Lib.below_iterAt hbw (k := w.heap.size) (by omega) s (k + (Utf8.decode s k).2)
      have hsz2 : w.heap.size < (wr.iterAt w.heap.size s (k + (Utf8.decode s k).2)).heap.size := by rw [Lib.iterAt_size]; omega
      have Hit := Lib.hid hit
      clear hit hbw
      by_cases hk0 : k = 0
      · subst hk0
        rcases hst with ⟨_, rfl⟩ | ⟨h1, _⟩
        · rw [decode_ascii s 0 hp hb0] at hnx hit2 hbw2
          simp only at hnx hit2 hbw2
          generalize s[0] = b at *
          go_wp2
          go_roundw
          case rel => exact ⟨1, false, rfl, by omega, hit2, hbw2, Or.inr ⟨Nat.le_refl _, rfl⟩⟩
          case measure => simp only [World.iterPos, hit2, Hit.out]; omega
        · omega
      · have hgo : btwGo c nv.data.toList (s.data.toList.drop k) bh k = btwGo c nv.data.toList (s.data.toList.drop 1) false 1 := by
          rcases hst with ⟨h1, _⟩ | ⟨_, h1⟩
          · omega
          · exact h1
        clear hst
        have fk : ((k : Int) == 0) = false := by simp; omega
        by_cases ha : s[k].toNat < 128
        · have hd : Utf8.decode s k = (s[k].toNat, 1) := decode_ascii s k hp ha
          rw [hd] at hnx hit2 hbw2 hsz2
          simp only at hnx hit2 hbw2 hsz2
          clear hd
          rw [get_list s k hp] at hgo
          have hsl := slice_lohi s 1 k 1 k rfl rfl (by omega) (by omega)
          have hpl := part_str s 1 k
          generalize s[k] = b at *
          by_cases hb0' : b.toNat = 0
          · have f0 : ((b.toNat : Int) == 0) = true := by simp; omega
            have HR := Lib.hid (btwL_none (l := s.data.toList) (hgo.symm.trans (btwGo_zero hb0')))
            clear hgo hb0' hpl
            go_wp2
            go_ret3
            exact ⟨by rw [HR.out]; rfl, hbw2⟩
          · have f0 : ((b.toNat : Int) == 0) = false := by simp; omega
            cases bh with
            | true =>
              have HR := Lib.hid ((btwGo_bh hb0').symm.trans hgo)
              clear hgo hb0' hpl
              go_wp2
              go_roundw
              case rel => exact ⟨k + 1, false, rfl, by omega, hit2, hbw2, Or.inr ⟨by omega, HR.out⟩⟩
              case measure => simp only [World.iterPos, hit2, Hit.out]; omega
            | false =>
              by_cases h92 : b.toNat = 92
              · have f1 : ((b.toNat : Int) == 92) = true := by simp; omega
                have HR := Lib.hid ((btwGo_slash h92).symm.trans hgo)
                clear hgo hb0' h92 hpl
                go_wp2
                go_roundw
                case rel => exact ⟨k + 1, true, rfl, by omega, hit2, hbw2, Or.inr ⟨by omega, HR.out⟩⟩
                case measure => simp only [World.iterPos, hit2, Hit.out]; omega
              · have f1 : ((b.toNat : Int) == 92) = false := by simp; omega
                by_cases hbc : b = c
                · have f2 : ((b.toNat : Int) == (c.toNat : Int)) = true := by simp [hbc]
                  have HR := Lib.hid (btwL_some (l := s.data.toList) (hgo.symm.trans (btwGo_shut hb0' h92 hbc)))
                  have hnn := HN.out.below hbw2
                  have cu := fun W hn => unescape_any (s.extract 1 k) W hn (by rw [ByteArray.size_extract]; omega)
                  rw [hpl] at cu
                  have HCU := Lib.hid (cu _ hnn)
                  clear hgo hb0' h92 hpl cu hbc hnn
                  generalize unL ((s.data.toList.take k).drop 1) = U at *
                  generalize s.extract 1 k = T at *
                  go_wp2_with fail
                  refine HCU.out.mono ?_
                  rintro e w1 ⟨rfl, b1⟩
                  have hbw3 := hbw2.trans (b1.mono (by omega))
                  go_wp2
                  go_ret3
                  exact ⟨by rw [HR.out]; rfl, hbw3⟩
                · have f2 : ((b.toNat : Int) == (c.toNat : Int)) = false := by
                    simp only [beq_eq_false_iff_ne, ne_eq]
                    intro e
                    exact hbc (UInt8.toNat_inj.1 (by omega))
                  have c3 := HCC.out b.toNat (wr.iterAt w.heap.size s (k + 1)) (by omega) (by omega)
                  rw [hasB_mem] at c3
                  by_cases hm : b ∈ nv.data.toList
                  · rw [decide_eq_true hm] at c3
                    have HR := Lib.hid (btwL_none (l := s.data.toList) (hgo.symm.trans (btwGo_never hb0' h92 hbc hm)))
                    have HC3 := Lib.hid c3
                    clear hgo hb0' h92 hpl hbc hm c3
                    go_wp2_with fail
                    refine HC3.out.mono ?_
                    rintro e w1 ⟨rfl, b1⟩
                    have hbw3 := hbw2.trans (b1.mono (by omega))
                    go_wp2
                    go_ret3
                    exact ⟨by rw [HR.out]; rfl, hbw3⟩
                  · rw [decide_eq_false hm] at c3
                    have HR := Lib.hid ((btwGo_on hb0' h92 hbc hm).symm.trans hgo)
                    have HC3 := Lib.hid c3
                    clear hgo hb0' h92 hpl hbc hm c3
                    go_wp2_with fail
                    refine HC3.out.mono ?_
                    rintro e w1 ⟨rfl, b1⟩
                    have hbw3 := hbw2.trans (b1.mono (by omega))
                    have hit3 := (b1.block _ hsz2).trans hit2
                    clear hit2 hbw2
                    go_wp2
                    go_roundw
                    case rel => exact ⟨k + 1, false, rfl, by omega, hit3, hbw3, Or.inr ⟨by omega, HR.out⟩⟩
                    case measure => simp only [World.iterPos, hit3, Hit.out]; omega
        · obtain ⟨d1, d2, d3, m, hm1, hm2, hm3⟩ := rune_high s k hp (by omega)
          have hd9 := decode_max s k
          rw [hm1, btwGo_rune c nv.data.toList hc HNV.out m _ bh k hm3 (by omega), hm2] at hgo
          have HR := Lib.hid hgo
          have c3 := HCC.out (Utf8.decode s k).1 (wr.iterAt w.heap.size s (k + (Utf8.decode s k).2)) (by omega) (by omega)
          rw [hasB_high HNV.out (by omega)] at c3
          have HC3 := Lib.hid c3
          have f0 : (((Utf8.decode s k).1 : Int) == 0) = false := by simp; omega
          have f1 : (((Utf8.decode s k).1 : Int) == 92) = false := by simp; omega
          have f2 : (((Utf8.decode s k).1 : Int) == (c.toNat : Int)) = false := by simp; omega
          clear hm1 hm2 hm3 ha hgo c3
          generalize (Utf8.decode s k).1 = r at *
          generalize (Utf8.decode s k).2 = d at *
          cases bh with
          | true =>
            go_wp2
            go_roundw
            case rel => exact ⟨k + d, false, rfl, by omega, hit2, hbw2, Or.inr ⟨by omega, HR.out⟩⟩
            case measure => simp only [World.iterPos, hit2, Hit.out]; omega
          | false =>
            go_wp2_with fail
            refine HC3.out.mono ?_
            rintro e w1 ⟨rfl, b1⟩
            have hbw3 := hbw2.trans (b1.mono (by omega))
            have hit3 := (b1.block _ hsz2).trans hit2
            clear hit2 hbw2
            go_wp2
            go_roundw
            case rel => exact ⟨k + d, false, rfl, by omega, hit3, hbw3, Or.inr ⟨by omega, HR.out⟩⟩
            case measure => simp only [World.iterPos, hit3, Hit.out]; omega
    · have hnx : ∀ ty, (Instr.next (.pointer (some ⟨w.heap.size, 0, none⟩)) true ty).run Tryd.prog wr = _ := fun ty => Lib.run_next_end_at wr w.heap.size s k ty hit hp
      have hgo : btwGo c nv.data.toList (s.data.toList.drop 1) false 1 = none := by
        rcases hst with ⟨h1, _⟩ | ⟨_, h1⟩
        · omega
        · rw [← h1, drop_all' s k hp]; rfl
      have HR := Lib.hid (btwL_none hgo)
      clear hst hgo
      go_wp2
      go_ret3
      exact ⟨by rw [HR.out]; rfl, hbw⟩

end Go.Proofs.YtioolcnoiaoflaaDoor
