/-
  The laws of the layer token: TokenSigns: its walk.
-/
import Derived.Test.YtggdpmaomhmobaaGreatDoorTkY
import Derived.Test.YtggdpmaomhmobaaGreatDoorTkL
namespace Go.Proofs.YtggdpmaomhmobaaGreatDoor
open Go.RowKit
set_option linter.unusedSimpArgs false
set_option linter.unusedVariables false
set_option maxRecDepth 100000

/-- A byte that came in. -/
theorem byte_of {a : Int} (h : (Lit.int .u8 a).wf = true) : ∃ c : UInt8, a = c.toNat := by
  have hw : 0 ≤ a ∧ a ≤ 255 := by simpa [Lit.wf, IntKind.min, IntKind.max, IntKind.signed, IntKind.bits] using h
  exact ⟨a.toNat.toUInt8, by rw [Nat.toUInt8_eq, UInt8.toNat_ofNat']; omega⟩

/-- .. behind one block more. -/
theorem conv_u8b (q : UInt8) (w : World) (o : Obj) :
    (convert 30 9 (.slice (some ⟨w.heap.size + 1, 0, none⟩) 1 1)).run Tryz.prog ((w.alloc o).alloc (.cells #[.int .u8 q.toNat] 5)) = .ok (.string ⟨#[q]⟩) ((w.alloc o).alloc (.cells #[.int .u8 q.toNat] 5)) := by
  have h := conv_u8 q (w.alloc o)
  rwa [alloc_size] at h
set_option maxHeartbeats 4000000 in
theorem tokenSigns_walk (w : World) (h7 : TkW w) (a0 : Int) (w0 : (Lit.int .u8 a0).wf = true) :
    Calls Tryz.prog 5 #[.int .u8 a0] w fun e w' => e = .returned (.bool true) ∧ Below w.heap.size w w' := by
  obtain ⟨c, rfl⟩ := byte_of w0
  have CA := Lib.hid (alive12_any w h7)
  have H7 := Lib.hid h7
  have e10 := eq_byte c 10
  rw [show (((10 : UInt8).toNat : Nat) : Int) = 10 from rfl] at e10
  clear w0 h7
  by_cases h10 : c = 10
  · rw [show (c == 10) = true from by simpa using h10] at e10
    clear h10
    go_enter Tryz.func5, Tryz.ntmps5
    go_wp2_with fail
    refine CA.out.mono ?_
    rintro e w1 ⟨rfl, b1⟩
    go_wp2
    go_ret
    exact ⟨rfl, b1⟩
  · rw [show (c == 10) = false from by simpa using h10] at e10
    have hcv := fun W => conv_u8 c W
    have hcv2 := fun W o => conv_u8b c W o
    have hsum := fun W => run_string_add_sum (P := Tryz.prog) W (⟨#[92]⟩ : ByteArray) ⟨#[c]⟩ (by show 1 + 1 ≤ _; omega)
    have c1 := fun W h => next_any ((⟨#[92]⟩ : ByteArray) ++ ⟨#[c]⟩) 0 (by show 0 < 2; omega) W h (by show 2 ≤ _; omega)
    rw [show (((⟨#[92]⟩ : ByteArray) ++ ⟨#[c]⟩).data.toList).drop 0 = [92, c] from rfl] at c1
    have ca := fun W => ascii_any (c.toNat : Int) W
    rw [show asciiB (c.toNat : Int) = tkAscii c from rfl] at ca
    cases hb : tkAscii c with
    | true =>
      rw [next_slash c h10 hb] at c1
      rw [hb] at ca
      simp only at c1
      have ct := fun W => tok_word [c] W
      generalize tkV (.word [c]) = v at *
      unfold tokV at ct
      simp only [kindV, textTk, urlTk, numTk] at ct
      have C1 := Lib.hid c1
      have CT := Lib.hid ct
      have CI := Lib.hid ca
      clear c1 ct ca hb h10
      go_enter Tryz.func5, Tryz.ntmps5
      go_wp2_with fail
      refine CA.out.mono ?_
      rintro e w1 ⟨rfl, b1⟩
      have HB1 := Lib.hid b1
      clear b1
      go_wp2_with fail
      refine (C1.out _ ((H7.out.below HB1.out).below ((Below.refl _ _).alloc (Nat.le_refl _) _))).mono ?_
      rintro e w2 ⟨rfl, b2⟩
      have HB2 := Lib.hid ((HB1.out.alloc HB1.out.size _).trans (b2.mono (by have := HB1.out.size; simp; omega)))
      clear b2
      go_wp2_with fail
      refine (CT.out _).mono ?_
      rintro e w3 ⟨rfl, b3⟩
      have HB3 := Lib.hid (HB2.out.then b3)
      clear b3
      go_wp2_with fail
      refine (CI.out _).mono ?_
      rintro e w4 ⟨rfl, rfl⟩
      go_wp2
      go_ret
      exact ⟨rfl, (HB3.out.alloc HB3.out.size _).alloc (by have := HB3.out.size; simp; omega) _⟩
    | false =>
      obtain ⟨t, ht⟩ := next_slash_no c h10 hb
      rw [ht] at c1
      rw [hb] at ca
      have hln := next_len [92, c] (by simp)
      generalize (nextL [92, c]).2 = n at *
      have ct := fun W => tok_word (92 :: t) W
      generalize tkV (.word (92 :: t)) = v at *
      unfold tokV at ct
      simp only [kindV, textTk, urlTk, numTk] at ct
      have hz : (⟨(92 :: t).toArray⟩ : ByteArray).size = t.length + 1 := str_size _
      have h0 : 0 < (⟨(92 :: t).toArray⟩ : ByteArray).size := by rw [hz]; omega
      have hg : (⟨(92 :: t).toArray⟩ : ByteArray)[0] = 92 := rfl
      generalize (⟨(92 :: t).toArray⟩ : ByteArray) = T at *
      have f0 : ((T[0].toNat : Int) == 92) = true := by rw [hg]; rfl
      have C1 := Lib.hid c1
      have CT := Lib.hid ct
      have CI := Lib.hid ca
      clear c1 ct ca hb h10 hz hg ht
      go_enter Tryz.func5, Tryz.ntmps5
      go_wp2_with fail
      refine CA.out.mono ?_
      rintro e w1 ⟨rfl, b1⟩
      have HB1 := Lib.hid b1
      clear b1
      go_wp2_with fail
      refine (C1.out _ ((H7.out.below HB1.out).below ((Below.refl _ _).alloc (Nat.le_refl _) _))).mono ?_
      rintro e w2 ⟨rfl, b2⟩
      have HB2 := Lib.hid ((HB1.out.alloc HB1.out.size _).trans (b2.mono (by have := HB1.out.size; simp; omega)))
      clear b2
      go_wp2_with fail
      refine (CT.out _).mono ?_
      rintro e w3 ⟨rfl, b3⟩
      have HB3 := Lib.hid (HB2.out.then b3)
      clear b3
      go_wp2_with fail
      refine (CI.out _).mono ?_
      rintro e w4 ⟨rfl, rfl⟩
      go_wp2
      go_ret
      exact ⟨rfl, HB3.out.alloc HB3.out.size _⟩

end Go.Proofs.YtggdpmaomhmobaaGreatDoor
