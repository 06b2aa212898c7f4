/-
  BlockQuotes: lines that are all quoted are one quote, in which what they are lies, one deeper: the law's walk.
-/
import Derived.Test.YtoleoigpijgboaaDoorBkA
import Derived.Test.YtoleoigpijgboaaDoorBkR
import Derived.Test.YtoleoigpijgboaaDoorReg
namespace Go.Proofs.YtoleoigpijgboaaDoor
open Go.RowKit
set_option linter.unusedSimpArgs false
set_option linter.unusedVariables false
set_option maxRecDepth 100000

def QtRel (ls : List (List UInt8)) (w1 : World) (v i : Value) (wr : World) : Prop :=
  ∃ k : Nat, i = .int .i64 k ∧ k ≤ ls.length ∧ wr.ownsRow w1.heap.size 9 1 v k (strs ((ls.take k).map qt)) ∧ Below w1.heap.size w1 wr
def LoRel (ax : List Blk) (w : World) (i : Value) (wr : World) : Prop := ∃ k : Nat, i = .int .i64 k ∧ k ≤ ax.length ∧ Low10 (ax.take k) ∧ wr = w
def HiRel (ax : List Blk) (w : World) (i : Value) (wr : World) : Prop := ∃ k : Nat, i = .int .i64 k ∧ k ≤ ax.length ∧ Below w.heap.size w wr
theorem parse_len {ls : List (List UInt8)} (h : ls.length ≤ 100000) : (parseB ls).length ≤ 2600000 := by
  have h1 := (firstM_count 12).1 ls
  have h2 := Nat.mul_le_mul_left (2 * 12 + 2) h
  show (allL 12 ls).length ≤ _
  omega

set_option maxHeartbeats 16000000 in
theorem blockQuotes_core (w : World) (A : Option Addr) (cap : Nat) (ls : List (List UInt8)) (hrow : RowOf w A cap (strs ls)) (hz : ∀ x ∈ ls, x.length ≤ 9223372036854775807) (hpl : plainL ls = true) (hne : 1 ≤ ls.length) :
    Calls Tryd.prog 4 #[.slice A ls.length cap] w fun e w' => e = .returned (.bool true) ∧ Below w.heap.size w w' := by
  obtain ⟨i0, hi, hz0, hz1, hz2⟩ := info_parts infoString
  have cpl := plain9_any A cap ls w hrow hz
  rw [hpl] at cpl
  obtain ⟨hf, hl40, h100⟩ := plain_few hpl
  have hcl := hrow.strs_le
  have HFQ := Lib.hid (few_qt hl40 (fun x hx => (h100 x hx).1))
  have HF := Lib.hid hf
  have HZ := Lib.hid h100
  have HR := Lib.hid hrow
  have hf0 : ((ls.length : Int) == 0) = false := beq_eq_false_iff_ne.2 (by omega)
  have HNe := Lib.hid hne
  clear hf h100 hrow hz hpl hne
  go_enter Tryd.func4, Tryd.ntmps4
  go_wp2_with fail
  refine cpl.mono ?_
  rintro e w0 ⟨rfl, hwe⟩
  have hwe := hwe.symm
  subst hwe
  go_wp2_with fail
  refine (alive9_any _).mono ?_
  rintro e w1 ⟨rfl, b1⟩
  have HB1 := Lib.hid b1
  have HR1 := Lib.hid (HR.out.below b1)
  clear b1 cpl
  go_wp2_with fail
  go_loopw [3, 26] (fun v i wr => QtRel ls w1 v i wr) (fun _ i _ => ls.length - (intOf i).toNat)
  case atStart => exact ⟨0, rfl, Nat.zero_le _, World.ownsRow_nil _ _ _ _, Below.refl _ _⟩
  case round =>
    obtain ⟨k, rfl, hk, hown, hbw⟩ := hrel
    have hss := hbw.size
    by_cases hp : k < ls.length
    · obtain ⟨b9, off, hA, hb9, hcell⟩ := (HR1.out.below hbw).cellAt hp
      have hsz := (HZ.out _ (List.getElem_mem hp)).1
      have HTk := Lib.hid (List.take_succ_eq_append_getElem hp)
      generalize ls[k] = x at *
      obtain ⟨X, hX1, hX⟩ := text_of' x
      rw [hX1] at hcell
      have hXs : X.size = x.length := by rw [← hX]; simp
      have hXm : X.size ≤ 100 := by omega
      have HXL := Lib.hid hX
      have HBW := Lib.hid hbw
      subst hA
      obtain ⟨Y, hY0⟩ : ∃ Y, (⟨#[62, 32]⟩ : ByteArray) ++ X = Y := ⟨_, rfl⟩
      have hYl : Y.data.toList = qt x := by rw [← hY0, ByteArray.data_append, Array.toList_append, HXL.out]; rfl
      have k0 := fun W => run_string_add_sum (P := Tryd.prog) W (⟨#[62, 32]⟩ : ByteArray) X (by show 2 + _ ≤ _; omega)
      rw [hY0] at k0
      have hnw := cells_one wr (.string Y) 9
      have hrow2 := hown.alloc (.cells #[.string Y] 9)
      have HYL := Lib.hid hYl
      clear hX1 hX hXs hsz hYl hY0 hown hbw
      go_wp2_with (at_builtin; refine wpList_append_own _ rfl _ _ 22 rfl w1.heap.size 9 i0 (.string ByteArray.empty) 1 16 Tryd.underlying22 hi hz0 hz1 hz2 rfl (by decide) _ _ _ rfl hrow2 ⟨wr.heap.size, 0, none⟩ 1 1 [.string Y] rfl rfl hnw (by simp [Value.oneCell']) (by unfold maxLen; omega) (by omega) (by simp; omega) ?_)
      intro v' w5 hown' hgrow _
      have HO5 := Lib.hid (show w5.ownsRow w1.heap.size 9 1 v' (k + 1) (strs ((ls.take (k + 1)).map qt)) from by
        have e : strs ((ls.take (k + 1)).map qt) = strs ((ls.take k).map qt) ++ [Value.string Y] := by
          rw [HTk.out, List.map_append, strs_append, List.map_cons, List.map_nil, strs_one, text_is HYL.out]
        rw [e, List.map_take]
        exact hown')
      have HB5 := Lib.hid ((HBW.out.alloc (by omega) (.cells #[.string Y] 9)).trans (below_of_grown hgrow (fun g hg => (hrow2.lt g hg).1) (by simp; omega)))
      clear hown' hgrow hrow2 hnw
      go_wp2
      first
        | (go_roundw
           case rel => exact ⟨k + 1, by go_num, by omega, HO5.out, HB5.out⟩
           case measure => simp [intOf]; omega)
        | exact ⟨⟨k + 1, by go_num, by omega, HO5.out, HB5.out⟩, by simp [intOf]; omega⟩
    · obtain rfl : k = ls.length := by omega
      rw [List.take_length] at hown
      obtain ⟨A3, c3, rfl, hr3, _⟩ := RowOf.own hown
      have ca := bparse_any A cap ls wr (HR1.out.below hbw) HF.out
      have HR3 := Lib.hid hr3
      have HBW := Lib.hid (HB1.out.then hbw)
      clear hown hr3 hbw
      go_wp2_with fail
      refine ca.mono ?_
      rintro e w4 ⟨va, rfl, howna, b4⟩
      have cb := bparse_any A3 c3 (ls.map qt) w4 (HR3.out.below b4) HFQ.out
      rw [List.length_map] at cb
      have HB4 := Lib.hid (HBW.out.then b4)
      have HOa := Lib.hid howna
      clear ca howna b4
      go_wp2_with fail
      refine cb.mono ?_
      rintro e w5 ⟨vb, rfl, hownb, b5⟩
      have howna5 := ownsRow_below HOa.out b5
      obtain ⟨Aa, ca, rfl, hata⟩ := BlksAt.own howna5
      obtain ⟨Ab, cb2, rfl, hatb⟩ := BlksAt.own hownb
      have HB5 := Lib.hid (HB4.out.then b5)
      have HPQ := Lib.hid (parse_quotes ls (fun e => by have := HNe.out; rw [e] at this; simp at this))
      have HSn := Lib.hid (show ∀ b ∈ parseB ls, 0 ≤ b.depth from fun b hb => by
        have h := allL_sound 12 ls b hb
        rw [show (12 : Int) - ((12 : Nat) : Int) = 0 from by omega] at h
        exact h.1)
      have hla := parse_len HF.out.len
      have HAta := Lib.hid hata
      have HAtb := Lib.hid hatb
      have hle := hata.le
      have hcm := hata.cap
      have hleb := hatb.le
      have hcmb := hatb.cap
      unfold maxLen at hcm hcmb
      generalize parseB ls = ax at *
      generalize parseB (ls.map qt) = bs at *
      clear cb howna5 hownb hata hatb b5
      go_wp2_with fail
      go_loopw [42] (fun i wr => LoRel ax w5 i wr) (fun i _ => ax.length - (intOf i).toNat)
      case atStart => exact ⟨0, rfl, Nat.zero_le _, (fun b hb => by simp at hb), rfl⟩
      case round =>
        obtain ⟨k, rfl, hk, hlow, hwe⟩ := hrel
        have hwe := hwe.symm
        subst hwe
        by_cases hp : k < ax.length
        · obtain ⟨b9, off, hA, hb9, hc0, hc1, hc2, hc3, hc4, hc5⟩ := HAta.out.at hp
          have HTk := Lib.hid (List.take_succ_eq_append_getElem hp)
          generalize ax[k] = x at *
          obtain ⟨xk, xd, xn, xt, xs, xi⟩ := x
          dsimp only at hc0 hc1 hc2 hc3 hc4 hc5
          have HLow := Lib.hid hlow
          subst hA
          clear hc0 hc2 hc3 hc4 hc5 hlow
          by_cases hd : 10 ≤ xd
          · have f1 : decide (10 ≤ xd) = true := decide_eq_true hd
            clear hd
            go_wp2
            go_ret
            exact ⟨rfl, HB5.out⟩
          · have f1 : decide (10 ≤ xd) = false := decide_eq_false hd
            have HL2 := Lib.hid (show Low10 (ax.take (k + 1)) from by
              rw [HTk.out]
              intro b hb
              rcases List.mem_append.1 hb with hb | hb
              · exact HLow.out b hb
              · simp at hb
                subst hb
                show xd < 10
                omega)
            clear hd
            go_wp2
            first
              | (go_roundw
                 case rel => exact ⟨k + 1, by go_num, by omega, HL2.out, rfl⟩
                 case measure => simp [intOf]; omega)
              | exact ⟨⟨k + 1, by go_num, by omega, HL2.out, rfl⟩, by simp [intOf]; omega⟩
        · obtain rfl : k = ax.length := by omega
          rw [List.take_length] at hlow
          have hbs := HPQ.out hlow
          subst hbs
          have HLow := Lib.hid hlow
          have hlb : (⟨3, 0, 0, false, [], []⟩ :: ax.map shiftB : List Blk).length = ax.length + 1 := by simp
          obtain ⟨b8, o8, hA8, hb8, a00, a01, a02, a03, a04, a05⟩ := HAtb.out.at (k := 0) (by simp)
          rw [hlb] at hleb ⊢
          subst hA8
          simp only [Nat.zero_mul, Nat.add_zero, List.getElem_cons_zero] at a00 a01 a02 a03 a04 a05
          clear hlow hlb
          go_wp2_with fail
          go_loopw [67] (fun i wr => HiRel ax w5 i wr) (fun i _ => ax.length - (intOf i).toNat)
          case atStart => exact ⟨0, rfl, Nat.zero_le _, Below.refl _ _⟩
          case round =>
            obtain ⟨k, rfl, hk, hbw⟩ := hrel
            have hss := hbw.size
            by_cases hp : k < ax.length
            · obtain ⟨b9, off, hA, hb9, hc0, hc1, hc2, hc3, hc4, hc5⟩ := (HAta.out.below hbw).at hp
              obtain ⟨b7, o7, hA7, hb7, d0, d1, d2, d3, d4, d5⟩ := (HAtb.out.below hbw).at (k := k + 1) (by simp; omega)
              cases hA7
              have h10 := HLow.out _ (List.getElem_mem hp)
              have h0 := HSn.out _ (List.getElem_mem hp)
              simp only [List.getElem_cons_succ, List.getElem_map, shiftB] at d0 d1 d2 d3 d4 d5
              generalize ax[k] = x at *
              obtain ⟨xk, xd, xn, xt, xs, xi⟩ := x
              dsimp only at hc0 hc1 hc2 hc3 hc4 hc5 d0 d1 d2 d3 d4 d5 h10 h0
              have HBW := Lib.hid hbw
              subst hA
              clear hbw a00 a01 a02 a03 a04 a05
              go_wp2_with fail
              go_quiet (fail)
              go_wp2
              exact ⟨⟨k + 1, by go_num, by omega, below_drewN' (HBW.out.alloc hss _) _⟩, by simp [intOf]; omega⟩
            · obtain rfl : k = ax.length := by omega
              go_wp2
              go_ret
              exact ⟨rfl, HB5.out.then hbw⟩

set_option maxHeartbeats 16000000 in
theorem blockQuotes_early (w : World) (A : Option Addr) (cap : Nat) (ls : List (List UInt8)) (hrow : RowOf w A cap (strs ls)) (hz : ∀ x ∈ ls, x.length ≤ 9223372036854775807) (hbad : plainL ls = false ∨ ls.length = 0) :
    Calls Tryd.prog 4 #[.slice A ls.length cap] w fun e w' => e = .returned (.bool true) ∧ Below w.heap.size w w' := by
  have cpl := plain9_any A cap ls w hrow hz
  have hcl := hrow.strs_le
  clear hrow hz
  cases hp : plainL ls with
  | false =>
    rw [hp] at cpl
    clear hp hbad
    go_enter Tryd.func4, Tryd.ntmps4
    go_wp2_with fail
    refine cpl.mono ?_
    rintro e w0 ⟨rfl, hwe⟩
    have hwe := hwe.symm
    subst hwe
    go_wp2_with fail
    refine (alive9_any _).mono ?_
    rintro e w1 ⟨rfl, b1⟩
    go_wp2
    go_ret
    exact ⟨rfl, b1⟩
  | true =>
    have h0 : ls.length = 0 := by simpa [hp] using hbad
    rw [hp, h0] at cpl
    rw [h0]
    clear hp hbad h0 hcl
    go_enter Tryd.func4, Tryd.ntmps4
    go_wp2_with fail
    refine cpl.mono ?_
    rintro e w0 ⟨rfl, hwe⟩
    have hwe := hwe.symm
    subst hwe
    go_wp2_with fail
    refine (alive9_any _).mono ?_
    rintro e w1 ⟨rfl, b1⟩
    go_wp2
    go_ret
    exact ⟨rfl, b1⟩

theorem blockQuotes_walk (w : World) (A0 : Option Addr) (c0 : Nat) (z0 : List ByteArray) (r0 : RowOf w A0 c0 (z0.map Value.string)) (w0 : ∀ s ∈ z0, s.size ≤ maxLen) :
    Calls Tryd.prog 4 #[.slice A0 z0.length c0] w fun e w' => e = .returned (.bool true) ∧ Below w.heap.size w w' := by
  rw [strs_of] at r0
  have hz : ∀ y ∈ z0.map (fun s => s.data.toList), y.length ≤ 9223372036854775807 := fun y hy => by
    obtain ⟨s, hs, rfl⟩ := List.mem_map.1 hy
    have := w0 s hs
    unfold maxLen at this
    simpa using this
  by_cases hbad : plainL (z0.map (fun s => s.data.toList)) = false ∨ (z0.map (fun s => s.data.toList)).length = 0
  · have h := blockQuotes_early w A0 c0 _ r0 hz hbad
    simp only [List.length_map] at h
    exact h
  · simp only [not_or, Bool.not_eq_false] at hbad
    have h := blockQuotes_core w A0 c0 _ r0 hz hbad.1 (by omega)
    simp only [List.length_map] at h
    exact h

end Go.Proofs.YtoleoigpijgboaaDoor
