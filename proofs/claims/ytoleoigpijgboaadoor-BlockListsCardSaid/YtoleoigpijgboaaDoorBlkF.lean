/-
  Package block: quote: a quote, and what lies in it.
-/
import Derived.Test.YtoleoigpijgboaaDoorBlkE
namespace Go.Proofs.YtoleoigpijgboaaDoor
open Go.RowKit
set_option linter.unusedSimpArgs false
set_option linter.unusedVariables false
set_option maxRecDepth 100000

/-- What 'all' does, at this depth: it puts these blocks behind the others. -/
def FunOk (d : Int) (f : List (List UInt8) → List Blk) (K : Nat) : Prop := ∀ (B b : Nat) (v : Value) (L : List Blk) (A : Option Addr) (cap : Nat) (ls : List (List UInt8)) (w : World), B ≤ w.heap.size → FinIs w B b v L → Lns B w A cap ls → Few ls → L.length + K * ls.length ≤ 50000000 →
  Calls Tryd.prog 23 #[.pointer (some ⟨b, 0, none⟩), .int .i64 d, .slice A ls.length cap] w fun e w' => e = .returned (.tuple #[]) ∧ ∃ v', FinIs w' B b v' (L ++ f ls) ∧ Kpt B w w'

def QuoRel (ls : List (List UInt8)) (w : World) (v i : Value) (wr : World) : Prop :=
  ∃ (k : Nat) (Q : List (List UInt8)), i = .int .i64 k ∧ k ≤ ls.length ∧ Q.length = k ∧ quotedL ls = Q ++ quotedL (ls.drop k) ∧ wr.ownsRow w.heap.size 9 1 v Q.length (strs Q) ∧ Below w.heap.size w wr

set_option maxHeartbeats 8000000 in
theorem quote_any (d : Int) (hd0 : 0 ≤ d) (hd : d ≤ 100) (q : List (List UInt8) → List Blk) (K : Nat) (hq : FunOk (d + 1) q K) (B b : Nat) (v : Value) (L : List Blk) (A : Option Addr) (cap : Nat) (ls : List (List UInt8)) (w : World) (hB : B ≤ w.heap.size) (h : FinIs w B b v L) (hl : Lns B w A cap ls) (hf : Few ls)
    (hn : L.length + 1 + K * (quotedL ls).length ≤ 50000000) :
    Calls Tryd.prog 32 #[.pointer (some ⟨b, 0, none⟩), .int .i64 d, .slice A ls.length cap] w fun e w' => e = .returned (.int .i64 (quotedL ls).length) ∧ ∃ v', FinIs w' B b v' (L ++ ⟨3, d, 0, false, [], []⟩ :: q (quotedL ls)) ∧ Kpt B w w' := by
  obtain ⟨i0, hi, hz0, hz1, hz2⟩ := info_parts infoString
  have hcl := hl.row.strs_le
  have hlen := hf.len
  have HF := Lib.hid hf
  have HFQ := Lib.hid hf.quoted
  have HR := Lib.hid hl.row
  have HH := Lib.hid h
  generalize hQ0 : quotedL ls = Q0 at *
  have HQ0 := Lib.hid hQ0
  have HQ := Lib.hid hq
  have HNN := Lib.hid hn
  have HL := Lib.hid hl
  clear hf h hl hQ0 hq hn
  go_enter Tryd.func32, Tryd.ntmps32
  go_wp2_with fail
  go_loopw [7, 14] (fun u i wr => QuoRel ls w u i wr) (fun _ i _ => ls.length - (intOf i).toNat)
  case atStart => exact ⟨0, [], rfl, Nat.zero_le _, rfl, by simp, World.ownsRow_nil _ _ _ _, Below.refl _ _⟩
  case round =>
    obtain ⟨k, Q, rfl, hk, hQl, hQ, hown, hbw⟩ := hrel
    rw [HQ0.out] at hQ
    by_cases hp : k < ls.length
    · obtain ⟨b9, off, hA, hb9, hcell⟩ := (HR.out.below hbw).cellAt hp
      have hsz := HF.out.size hp
      rw [drop_line ls hp] at hQ
      generalize ls[k] = s at *
      have cq := fun W => mkQuote_any ⟨s.toArray⟩ W (by rw [str_size]; omega)
      rw [show (⟨s.toArray⟩ : ByteArray).data.toList = s from rfl] at cq
      simp only [quotedL] at hQ
      have HB := Lib.hid hbw
      have HO := Lib.hid hown
      have hss := hbw.size
      cases hm : mkQuote s with
      | some t =>
        rw [hm] at cq hQ
        unfold mkQuoteV at cq
        dsimp only at cq hQ
        have HE := Lib.hid (show Q0 = (Q ++ [t]) ++ quotedL (ls.drop (k + 1)) from by rw [hQ]; simp)
        have HS := Lib.hid (show strs Q ++ [Value.string ⟨t.toArray⟩] = strs (Q ++ [t]) from by rw [strs_append]; rfl)
        have HK := Lib.hid hQl
        clear hm hQ hbw hown hsz
        subst hA
        go_wp2_with fail
        refine (cq _).mono ?_
        rintro e w1 ⟨rfl, b1⟩
        have hnw := cells_one w1 (.string ⟨t.toArray⟩) 9
        have hrow2 := (ownsRow_below HO.out b1).alloc (.cells #[.string ⟨t.toArray⟩] 9)
        have hs1 := b1.size
        have HB1 := Lib.hid (HB.out.then b1)
        have hcell1 := (b1.cell (p := ⟨b9, off + k, none⟩) hb9).trans hcell
        clear b1 cq hcell hcell1
        go_wp2_with (at_builtin; refine wpList_append_own _ rfl _ _ 22 rfl w.heap.size 9 i0 (.string ByteArray.empty) 1 16 Tryd.underlying22 hi hz0 hz1 hz2 rfl (by decide) _ _ _ rfl hrow2 ⟨w1.heap.size, 0, none⟩ 1 1 [.string ⟨t.toArray⟩] rfl rfl hnw (by simp [Value.oneCell']) (by unfold maxLen; omega) (by omega) (by simp; omega) ?_)
        intro v' w2 hown' hgrow _
        rw [HS.out] at hown'
        have hb2 := (HB1.out.alloc (by omega) (.cells #[.string ⟨t.toArray⟩] 9)).trans (below_of_grown hgrow (fun g hg => (hrow2.lt g hg).1) (by simp; omega))
        have HO2 := Lib.hid hown'
        have HB2 := Lib.hid hb2
        clear hown' hgrow hb2 hrow2 hnw hQl
        go_wp2
        go_roundw
        case rel => exact ⟨k + 1, Q ++ [t], by go_num, by omega, by rw [List.length_append, HK.out]; rfl, by rw [HQ0.out]; exact HE.out, by rw [List.length_append, HK.out]; exact HO2.out, HB2.out⟩
        case measure => simp [intOf]; omega
      | none =>
        rw [hm] at cq hQ
        unfold mkQuoteV at cq
        dsimp only at cq hQ
        rw [List.append_nil] at hQ
        clear hm hsz
        subst hA
        go_wp2_with fail
        refine (cq _).mono ?_
        rintro e w1 ⟨rfl, b1⟩
        have hown1 := ownsRow_below hown b1
        have hB1 := hbw.then b1
        clear cq hcell hown HO HB hss b1 hbw
        obtain rfl := hQ
        clear hQl hp hk
        obtain ⟨A2, cap2, rfl, hL2⟩ := Lns.own (B := B) hown1
        have hlenQ : Q0.length ≤ 100000 := HFQ.out.len
        have hh1 := HH.out.below hB1
        have hs1 := hB1.size
        have cp := put_any B b v L d ⟨3, 0, 0, false, [], []⟩ w1 (by omega) hh1 (by have := HNN.out; omega)
        simp only [blkV] at cp
        have HK1 := Lib.hid (Kpt.of hB1 hB)
        have HL2 := Lib.hid hL2
        have hcq := hL2.row.strs_le
        clear hh1 hown1 hB1 hL2
        go_wp2_with fail
        refine cp.mono ?_
        rintro e w3 ⟨rfl, v3, hh3, hk3⟩
        have hs3 := hk3.size
        have ca := HQ.out B b v3 _ A2 cap2 Q0 w3 (by omega) hh3 (HL2.out.kept hk3) HFQ.out (by rw [List.length_append]; have := HNN.out; simp only [List.length_cons, List.length_nil]; omega)
        have HK3 := Lib.hid (HK1.out.trans hk3)
        clear hh3 hk3 cp
        go_wp2_with fail
        refine ca.mono ?_
        rintro e w4 ⟨rfl, v4, hh4, hk4⟩
        have HH4 := Lib.hid hh4
        have HK4 := Lib.hid (HK3.out.trans hk4)
        clear hh4 hk4 ca
        go_wp2
        go_ret
        exact ⟨rfl, v4, by have := HH4.out; rw [List.append_assoc] at this; exact this, HK4.out⟩
    · obtain rfl : k = ls.length := by omega
      rw [List.drop_length] at hQ
      simp only [quotedL, List.append_nil] at hQ
      have hown1 := hown
      have hB1 := hbw
      clear hown hbw
      obtain rfl := hQ
      clear hQl hp hk
      obtain ⟨A2, cap2, rfl, hL2⟩ := Lns.own (B := B) hown1
      have hlenQ : Q0.length ≤ 100000 := HFQ.out.len
      have hh1 := HH.out.below hB1
      have hs1 := hB1.size
      have cp := put_any B b v L d ⟨3, 0, 0, false, [], []⟩ wr (by omega) hh1 (by have := HNN.out; omega)
      simp only [blkV] at cp
      have HK1 := Lib.hid (Kpt.of hB1 hB)
      have HL2 := Lib.hid hL2
      have hcq := hL2.row.strs_le
      clear hh1 hown1 hB1 hL2
      go_wp2_with fail
      refine cp.mono ?_
      rintro e w3 ⟨rfl, v3, hh3, hk3⟩
      have hs3 := hk3.size
      have ca := HQ.out B b v3 _ A2 cap2 Q0 w3 (by omega) hh3 (HL2.out.kept hk3) HFQ.out (by rw [List.length_append]; have := HNN.out; simp only [List.length_cons, List.length_nil]; omega)
      have HK3 := Lib.hid (HK1.out.trans hk3)
      clear hh3 hk3 cp
      go_wp2_with fail
      refine ca.mono ?_
      rintro e w4 ⟨rfl, v4, hh4, hk4⟩
      have HH4 := Lib.hid hh4
      have HK4 := Lib.hid (HK3.out.trans hk4)
      clear hh4 hk4 ca
      go_wp2
      go_ret
      exact ⟨rfl, v4, by have := HH4.out; rw [List.append_assoc] at this; exact this, HK4.out⟩

end Go.Proofs.YtoleoigpijgboaaDoor
