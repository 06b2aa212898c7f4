/-
  BlockCodes: lines in a fence are code, as they are, whatever they are: the law's walk.
-/
import Derived.Test.YtoleoigpijgboaaDoorBkE
import Derived.Test.YtoleoigpijgboaaDoorBkF
import Derived.Test.YtoleoigpijgboaaDoorBkH
import Derived.Test.YtoleoigpijgboaaDoorBkS
import Derived.Test.YtoleoigpijgboaaDoorLineE
namespace Go.Proofs.YtoleoigpijgboaaDoor
open Go.RowKit
set_option linter.unusedSimpArgs false
set_option linter.unusedVariables false
set_option maxRecDepth 100000

def TlRel (X : ByteArray) (w : World) (i : Value) (wr : World) : Prop := ∃ j : Nat, i = .int .i64 j ∧ j ≤ X.size ∧ (∀ p, p < j → p + 5 ≤ X.size → (X.data.toList.drop p).take 5 ≠ til5) ∧ wr = w
theorem til_none {X : ByteArray} {j : Nat} (h : ∀ p, p < j → p + 5 ≤ X.size → (X.data.toList.drop p).take 5 ≠ til5) (hj : ¬ j + 4 < X.size) : ¬ HasTil X.data.toList := by
  rintro ⟨p, hp, ht⟩
  have : X.data.toList.length = X.size := by simp
  exact h p (by omega) (by omega) ht
theorem expand_len (x : List UInt8) (h : x.length ≤ 100) : (expandL x).length ≤ 400 := by
  have h1 := wt_strip x 0
  have h2 := wt_len (stripL x 0)
  have h3 := wt_le x
  show (stripL x 0).length ≤ 400
  omega
theorem til_slice (s : ByteArray) (i : Nat) (h : i + 5 ≤ s.size) (hs : s.size ≤ 100) (W : World) :
    (Instr.slice 9 (.string s) (some (.int .i64 (i : Int))) (some (.int .i64 ((i : Int) + 5))) none).run Tryd.prog W = .ok (.string (s.extract i (i + 5))) W := by
  have := run_slice_string (P := Tryd.prog) W 9 s .i64 .i64 (i : Int) ((i : Int) + 5) Tryd.underlying9 (by omega) (by omega) (by omega)
  rw [show ((i : Int) + 5).toNat = i + 5 from by omega, Int.toNat_natCast] at this
  exact this
def CoRel (ls : List (List UInt8)) (F : List UInt8) (w1 : World) (z6 z7 z48 : Value) (wr : World) : Prop :=
  ∃ (k : Nat) (U : ByteArray), z48 = .int .i64 k ∧ k ≤ ls.length ∧ z6 = .string U ∧ U.data.toList = joinL ((ls.take k).map expandL) ∧ wr.ownsRow w1.heap.size 9 1 z7 (k + 1) (strs (F :: ls.take k)) ∧ Below w1.heap.size w1 wr ∧ (∀ x ∈ ls.take k, ¬ HasTil x)
theorem strs_tail (ls : List (List UInt8)) (F : List UInt8) : strs (F :: ls) ++ [Value.string ⟨#[126, 126, 126, 126, 126]⟩, Value.string ⟨#[101, 110, 100]⟩] = strs ((F :: ls) ++ [til5, endW]) := by
  rw [strs_append]
  rfl

set_option maxHeartbeats 16000000 in
theorem blockCodes_core (w : World) (A : Option Addr) (cap : Nat) (ls : List (List UInt8)) (S : ByteArray) (hrow : RowOf w A cap (strs ls)) (hz : ∀ x ∈ ls, x.length ≤ 9223372036854775807) (hpl : plainL ls = true) (hS20 : S.size ≤ 20) :
    Calls Tryd.prog 6 #[.slice A ls.length cap, .string S] w fun e w' => e = .returned (.bool true) ∧ Below w.heap.size w w' := by
  obtain ⟨i0, hi, hz0, hz1, hz2⟩ := info_parts infoString
  have cpl := plain9_any A cap ls w hrow hz
  rw [hpl] at cpl
  obtain ⟨hf, hl40, h100⟩ := plain_few hpl
  have hcl := hrow.strs_le
  have HF := Lib.hid hf
  have HZ := Lib.hid h100
  have HR := Lib.hid hrow
  have hf0 : decide ((20 : Int) < (S.size : Int)) = false := by simp; omega
  have HSL := Lib.hid (show S.data.toList.length = S.size by simp)
  clear hf h100 hrow hz hpl
  go_enter Tryd.func6, Tryd.ntmps6
  go_wp2_with fail
  refine cpl.mono ?_
  rintro e w0 ⟨rfl, hwe⟩
  have hwe := hwe.symm
  subst hwe
  go_wp2_with fail
  refine (alive9_any _).mono ?_
  rintro e w1 ⟨rfl, b1⟩
  have HB1 := Lib.hid b1
  have HR1 := Lib.hid (HR.out.below b1)
  clear b1 cpl
  go_wp2_with fail
  go_loopw [5] (fun i wr => LwRel S w1 i wr) (fun i _ => S.size - (intOf i).toNat)
  case atStart => exact ⟨0, rfl, Nat.zero_le _, fun b hb => by simp at hb, rfl⟩
  case round =>
    obtain ⟨j, rfl, hj, hlow, hwe⟩ := hrel
    have hwe := hwe.symm
    subst hwe
    by_cases hp : j < S.size
    · have hlt : j < S.data.toList.length := by rw [HSL.out]; exact hp
      have HStep := Lib.hid (fun h => low_step hlt hlow h)
      rw [show S.data.toList[j] = S[j] from rfl] at HStep
      clear hlow
      by_cases ha : S[j].toNat < 97
      · have g1 : decide ((S[j].toNat : Int) < 97) = true := by simp; omega
        clear ha
        go_wp2
        go_ret
        exact ⟨rfl, HB1.out⟩
      · have g1 : decide ((S[j].toNat : Int) < 97) = false := by simp; omega
        by_cases hb : 122 < S[j].toNat
        · have g2 : decide ((122 : Int) < (S[j].toNat : Int)) = true := by simp; omega
          clear ha hb
          go_wp2
          go_ret
          exact ⟨rfl, HB1.out⟩
        · have g2 : decide ((122 : Int) < (S[j].toNat : Int)) = false := by simp; omega
          have HL := Lib.hid (HStep.out ⟨by omega, by omega⟩)
          clear ha hb
          go_wp2
          go_roundw
          case rel => exact ⟨j + 1, by go_num, by omega, HL.out, rfl⟩
          case measure => simp [intOf]; omega
    · obtain rfl : j = S.size := by omega
      rw [List.take_of_length_le (by rw [HSL.out]; exact Nat.le_refl _)] at hlow
      have HLow := Lib.hid hlow
      clear hlow
      rename World => wB
      obtain ⟨F, hF0⟩ : ∃ F, (⟨#[126, 126, 126, 126, 126, 32]⟩ : ByteArray) ++ S = F := ⟨_, rfl⟩
      have hFl : F.data.toList = fl5 S.data.toList := by rw [← hF0, ByteArray.data_append, Array.toList_append]; rfl
      have k0 := fun W => run_string_add_sum (P := Tryd.prog) W (⟨#[126, 126, 126, 126, 126, 32]⟩ : ByteArray) S (by show 6 + _ ≤ _; omega)
      rw [hF0] at k0
      have HFL := Lib.hid hFl
      have hlit : (wB.alloc (.cells #[.string F] 9)).ownsRow wB.heap.size 9 1 (.slice (some ⟨wB.heap.size, 0, none⟩) 1 1) 1 (strs [fl5 S.data.toList]) := by
        rw [strs_one, text_is hFl]
        exact ⟨rfl, .inr ⟨wB.heap.size, 1, #[.string F], rfl, Nat.le_refl _, heap_alloc_new wB _, Nat.le_refl _, by unfold maxLen; omega, rfl, rfl⟩⟩
      have HLit := Lib.hid hlit
      have HBL := Lib.hid ((Below.refl _ wB).alloc (Nat.le_refl _) (.cells #[.string F] 9))
      clear hlit hFl hF0
      go_wp2_with fail
      go_loopw [6, 7, 48] (fun z6 z7 z48 wr => CoRel ls (fl5 S.data.toList) wB z6 z7 z48 wr) (fun _ _ z48 _ => ls.length - (intOf z48).toNat)
      case atStart => exact ⟨0, ⟨#[]⟩, rfl, Nat.zero_le _, rfl, rfl, HLit.out, HBL.out, by simp⟩
      case round =>
        obtain ⟨k, U, rfl, hk, rfl, hU, hown, hbw, hall⟩ := hrel
        have hss := hbw.size
        have hszU := text_size hU
        have hjb := joinL_bound ((ls.take k).map expandL) 400 (fun x hx => by
          obtain ⟨y, hy, rfl⟩ := List.mem_map.1 hx
          exact expand_len y (HZ.out y (List.mem_of_mem_take hy)).1)
        rw [List.length_map, List.length_take, Nat.min_eq_left hk] at hjb
        have hU2 : U.size ≤ 20000 := by
          have : k * (400 + 1) ≤ 40 * 401 := Nat.mul_le_mul_right _ (by omega)
          omega
        have HU := Lib.hid hU
        have HO := Lib.hid hown
        have HBW := Lib.hid hbw
        have HAll := Lib.hid hall
        clear hszU hjb hU hown hall
        by_cases hp : k < ls.length
        · obtain ⟨b9, off, hA, hb9, hcell⟩ := (HR1.out.below hbw).cellAt hp
          have hsz := (HZ.out _ (List.getElem_mem hp)).1
          have HTk := Lib.hid (List.take_succ_eq_append_getElem hp)
          generalize ls[k] = x at *
          obtain ⟨X, hX1, hX⟩ := text_of' x
          rw [hX1] at hcell
          have hXs : X.size = x.length := by rw [← hX]; simp
          have hXm : X.size ≤ 100 := by omega
          have HXL := Lib.hid hX
          subst hA
          clear hX1 hX hXs hsz hbw
          rename World => w2
          go_wp2_with fail
          go_loopw [10] (fun i wr2 => TlRel X w2 i wr2) (fun i _ => X.size - (intOf i).toNat)
          case atStart => exact ⟨0, rfl, Nat.zero_le _, fun p hp => by omega, rfl⟩
          case round =>
            obtain ⟨j, rfl, hj, htl, hwe⟩ := hrel
            have hwe := hwe.symm
            subst hwe
            by_cases hp2 : j + 4 < X.size
            · have hsl := fun W => til_slice X j (by omega) hXm W
              have hex : (X.extract j (j + 5)).toList = (X.data.toList.drop j).take 5 := by
                rw [Lib.extract_toList, show j + 5 - j = 5 from by omega]
              have HTl := Lib.hid htl
              have f1 : decide ((j : Int) + 4 < (X.size : Int)) = true := by simp; omega
              clear htl
              by_cases ht : (X.data.toList.drop j).take 5 = til5
              · have f2 : ((X.extract j (j + 5)).toList == [126, 126, 126, 126, 126]) = true := by rw [hex, ht]; rfl
                clear ht hex
                go_wp2
                go_ret
                exact ⟨rfl, HB1.out.then HBW.out⟩
              · have f2 : ((X.extract j (j + 5)).toList == [126, 126, 126, 126, 126]) = false := by
                  rw [hex, beq_eq_false_iff_ne]
                  exact ht
                have HT2 := Lib.hid (show ∀ p, p < j + 1 → p + 5 ≤ X.size → (X.data.toList.drop p).take 5 ≠ til5 from by
                  intro p hp h5
                  by_cases he : p = j
                  · subst he; exact ht
                  · exact HTl.out p (by omega) h5)
                clear ht hex
                go_wp2
                first
                  | (go_roundw
                     case rel => exact ⟨j + 1, by go_num, by omega, HT2.out, rfl⟩
                     case measure => simp [intOf]; omega)
                  | exact ⟨⟨j + 1, by go_num, by omega, HT2.out, rfl⟩, by simp [intOf]; omega⟩
            · have f1 : decide ((j : Int) + 4 < (X.size : Int)) = false := by simp; omega
              have hno := til_none htl hp2
              rw [HXL.out] at hno
              have HNo := Lib.hid hno
              have cx := fun W => expand_any X W (by omega)
              rw [HXL.out] at cx
              have hxl := expand_len x (by have h := congrArg List.length HXL.out; simp at h; omega)
              obtain ⟨E, hE1, hE⟩ := text_of' (expandL x)
              have hEs : E.size ≤ 400 := by rw [text_size hE]; exact hxl
              rw [show (⟨(expandL x).toArray⟩ : ByteArray) = E from text_is hE] at cx
              have HEL := Lib.hid hE
              clear htl hp2 hno hxl hE hE1
              rename World => wQ
              have hnw := cells_one wQ (.string X) 9
              have hrow2 := HO.out.alloc (.cells #[.string X] 9)
              have k1 := fun W => run_string_add_sum (P := Tryd.prog) W E (⟨#[10]⟩ : ByteArray) (by show _ + 1 ≤ _; omega)
              have k2 := fun W => run_string_add_sum (P := Tryd.prog) W U (E ++ (⟨#[10]⟩ : ByteArray)) (by rw [ByteArray.size_append]; show _ + (_ + 1) ≤ _; omega)
              go_wp2_with (at_builtin; refine wpList_append_own _ rfl _ _ 22 rfl wB.heap.size 9 i0 (.string ByteArray.empty) 1 16 Tryd.underlying22 hi hz0 hz1 hz2 rfl (by decide) _ _ _ rfl hrow2 ⟨wQ.heap.size, 0, none⟩ 1 1 [.string X] rfl rfl hnw (by simp [Value.oneCell']) (by unfold maxLen; omega) (by omega) (by simp; omega) ?_)
              intro v' w3 hown' hgrow _
              have HO3 := Lib.hid (show w3.ownsRow wB.heap.size 9 1 v' (k + 1 + 1) (strs (fl5 S.data.toList :: ls.take (k + 1))) from by
                have e : strs (fl5 S.data.toList :: ls.take (k + 1)) = strs (fl5 S.data.toList :: ls.take k) ++ [Value.string X] := by
                  rw [HTk.out, ← List.cons_append, strs_append, strs_one, text_is HXL.out]
                rw [e]
                exact hown')
              have HB3 := Lib.hid ((HBW.out.alloc (by omega) (.cells #[.string X] 9)).trans (below_of_grown hgrow (fun g hg => (hrow2.lt g hg).1) (by simp; omega)))
              have hs3 := HB3.out.size
              clear hown' hgrow hrow2 hnw
              go_wp2_with fail
              refine (cx _).mono ?_
              rintro e w4 ⟨rfl, b4⟩
              have HB4 := Lib.hid (HB3.out.trans (b4.mono hs3))
              have HO4 := Lib.hid (ownsRow_below HO3.out b4)
              have HU4 := Lib.hid (show (U ++ (E ++ (⟨#[10]⟩ : ByteArray))).data.toList = joinL ((ls.take (k + 1)).map expandL) from by
                rw [HTk.out, List.map_append, List.map_cons, List.map_nil, joinL_snoc, ByteArray.data_append, Array.toList_append, ByteArray.data_append, Array.toList_append, HU.out, HEL.out]
                simp)
              have HAll4 := Lib.hid (show ∀ y ∈ ls.take (k + 1), ¬ HasTil y from by
                intro y hy
                rw [HTk.out] at hy
                rcases List.mem_append.1 hy with hy | hy
                · exact HAll.out y hy
                · simp at hy
                  subst hy
                  exact HNo.out)
              clear b4 cx
              go_wp2
              first
                | (go_roundw
                   case rel => exact ⟨k + 1, _, by go_num, by omega, rfl, HU4.out, HO4.out, HB4.out, HAll4.out⟩
                   case measure => simp [intOf]; omega)
                | exact ⟨⟨k + 1, _, by go_num, by omega, rfl, HU4.out, HO4.out, HB4.out, HAll4.out⟩, by simp [intOf]; omega⟩
        · obtain rfl : k = ls.length := by omega
          have hown := HO.out
          have hU3 := HU.out
          have hall := HAll.out
          rw [List.take_length] at hown hU3 hall
          obtain ⟨A3, c3, rfl, hr3, _⟩ := RowOf.own hown
          have HPa := Lib.hid (parse_codes S.data.toList HLow.out ls hall)
          have HPb := Lib.hid (parse_open S.data.toList HLow.out ls hall)
          have HU4 := Lib.hid hU3
          have HR3 := Lib.hid hr3
          have HFq := Lib.hid (show Few ((fl5 S.data.toList :: ls) ++ [til5, endW]) from ⟨by simp; omega, fun y hy => by
            have h4 := wt_le y
            rcases List.mem_append.1 hy with hy | hy
            · rcases List.mem_cons.1 hy with rfl | hy
              · have h5 := HSL.out
                simp only [fl5, til5, List.length_append, List.length_cons, List.length_nil] at h4 ⊢
                show wt ([126, 126, 126, 126, 126] ++ 32 :: S.data.toList) ≤ _
                omega
              · have := (HZ.out y hy).1; omega
            · simp at hy
              rcases hy with rfl | rfl <;> decide⟩)
          rename World => wr
          clear hown hr3 hU3 hall hbw
          go_wp2_with (at_builtin; refine append_row rfl _ _ rfl wr.heap.size (.slice none 0 0) 0 [] rfl (World.ownsRow_nil _ _ _ _) A3 c3 (fl5 S.data.toList :: ls) rfl HR3.out (by simp; omega) (Nat.le_refl _) ?_)
          intro v5 w5 hown5 hgrow5
          have hb5 : Below wr.heap.size wr w5 := (Below.refl _ _).grown hgrow5 (Nat.le_refl _) (fun k hk => by simp [Value.ownBlock] at hk)
          have hs5 := hb5.size
          have hown5b : w5.ownsRow wr.heap.size 9 1 v5 (ls.length + 1) (strs (fl5 S.data.toList :: ls)) := by simpa using hown5
          have hnw := cells_pair w5 (.string ⟨#[126, 126, 126, 126, 126]⟩) (.string ⟨#[101, 110, 100]⟩) 9
          have hrow5 := hown5b.alloc (.cells #[.string ⟨#[126, 126, 126, 126, 126]⟩, .string ⟨#[101, 110, 100]⟩] 9)
          have HB5 := Lib.hid hb5
          clear hgrow5 hown5 hb5
          go_wp2_with (at_builtin; refine wpList_append_own _ rfl _ _ 22 rfl wr.heap.size 9 i0 (.string ByteArray.empty) 1 16 Tryd.underlying22 hi hz0 hz1 hz2 rfl (by decide) _ _ _ rfl hrow5 ⟨w5.heap.size, 0, none⟩ 2 2 [.string ⟨#[126, 126, 126, 126, 126]⟩, .string ⟨#[101, 110, 100]⟩] rfl rfl hnw (by simp [Value.oneCell']) (by unfold maxLen; omega) (by omega) (by simp; omega) ?_)
          intro v6 w6 hown6 hgrow6 _
          rw [strs_tail] at hown6
          have hb6 : Below wr.heap.size wr w6 := (HB5.out.alloc hs5 (.cells #[.string ⟨#[126, 126, 126, 126, 126]⟩, .string ⟨#[101, 110, 100]⟩] 9)).trans (below_of_grown hgrow6 (fun g hg => (hrow5.lt g hg).1) (by simp; omega))
          have hlq : ((fl5 S.data.toList :: ls) ++ [til5, endW]).length = ls.length + 1 + 2 := by simp
          obtain ⟨A6, c6, rfl, hr6, _⟩ := RowOf.own hown6
          have ca := bparse_any A6 c6 ((fl5 S.data.toList :: ls) ++ [til5, endW]) w6 hr6 HFq.out
          rw [HPa.out, hlq] at ca
          have HR6 := Lib.hid (HR3.out.below hb6)
          have HB6 := Lib.hid ((HB1.out.then HBW.out).then hb6)
          clear hb6 hown6 hgrow6 hrow5 hown5b hnw hr6 hlq
          go_wp2_with fail
          refine ca.mono ?_
          rintro e w7 ⟨va, rfl, howna, b7⟩
          have cb := bparse_any A3 c3 (fl5 S.data.toList :: ls) w7 (HR6.out.below b7) ⟨by have := HFq.out.len; simp at this ⊢; omega, fun y hy => HFq.out.wt y (List.mem_append_left _ hy)⟩
          rw [HPb.out, List.length_cons] at cb
          have HB7 := Lib.hid (HB6.out.then b7)
          have HOa := Lib.hid howna
          clear ca howna b7
          go_wp2_with fail
          refine cb.mono ?_
          rintro e w8 ⟨vb, rfl, hownb, b8⟩
          have howna8 := ownsRow_below HOa.out b8
          have HB8 := Lib.hid (HB7.out.then b8)
          obtain ⟨Aa, ca2, rfl, hata⟩ := BlksAt.own howna8
          obtain ⟨Ab, cb2, rfl, hatb⟩ := BlksAt.own hownb
          obtain ⟨ba, oa, hAa, hba, a00, a01, a02, a03, a04, a05⟩ := hata.one
          subst hAa
          obtain ⟨a10, a11, a12, a13, a14, a15⟩ := hata.second
          obtain ⟨bb, ob, hAb, hbb, c00, c01, c02, c03, c04, c05⟩ := hatb.one
          subst hAb
          dsimp only at a00 a01 a02 a03 a04 a05 a10 a11 a12 a13 a14 a15 c00 c01 c02 c03 c04 c05
          rw [text_is HU4.out] at a04 c04
          rw [show (⟨S.data.toList.toArray⟩ : ByteArray) = S from Lib.mk_data S] at a05 c05
          rw [show (⟨endW.toArray⟩ : ByteArray) = ⟨#[101, 110, 100]⟩ from rfl] at a14
          have hlea := hata.le
          have hcma := hata.cap
          have hleb := hatb.le
          have hcmb := hatb.cap
          unfold maxLen at hcma hcmb
          simp only [List.length_cons, List.length_nil] at hlea hleb ⊢
          have hsw8 : w.heap.size ≤ w8.heap.size := HB8.out.size
          clear howna8 hownb b8 cb hata hatb
          go_wp2_with fail
          go_quiet (fail)
          go_wp2
          go_ret
          exact ⟨ret_bool (by simp), below_drewN' (HB8.out.alloc hsw8 _) _⟩

set_option maxHeartbeats 16000000 in
theorem blockCodes_early (w : World) (A : Option Addr) (cap : Nat) (ls : List (List UInt8)) (S : ByteArray) (hrow : RowOf w A cap (strs ls)) (hz : ∀ x ∈ ls, x.length ≤ 9223372036854775807) (hS : S.size ≤ 9223372036854775807) (hbad : plainL ls = false ∨ 20 < S.size) :
    Calls Tryd.prog 6 #[.slice A ls.length cap, .string S] w fun e w' => e = .returned (.bool true) ∧ Below w.heap.size w w' := by
  have cpl := plain9_any A cap ls w hrow hz
  have hcl := hrow.strs_le
  clear hrow hz
  cases hp : plainL ls with
  | false =>
    rw [hp] at cpl
    clear hp hbad
    go_enter Tryd.func6, Tryd.ntmps6
    go_wp2_with fail
    refine cpl.mono ?_
    rintro e w0 ⟨rfl, hwe⟩
    have hwe := hwe.symm
    subst hwe
    go_wp2_with fail
    refine (alive9_any _).mono ?_
    rintro e w1 ⟨rfl, b1⟩
    go_wp2
    go_ret
    exact ⟨rfl, b1⟩
  | true =>
    have h20 : 20 < S.size := by simpa [hp] using hbad
    have f1 : decide ((20 : Int) < (S.size : Int)) = true := by simp; omega
    rw [hp] at cpl
    clear hp hbad
    go_enter Tryd.func6, Tryd.ntmps6
    go_wp2_with fail
    refine cpl.mono ?_
    rintro e w0 ⟨rfl, hwe⟩
    have hwe := hwe.symm
    subst hwe
    go_wp2_with fail
    refine (alive9_any _).mono ?_
    rintro e w1 ⟨rfl, b1⟩
    go_wp2
    go_ret
    exact ⟨rfl, b1⟩

theorem blockCodes_walk (w : World) (A0 : Option Addr) (c0 : Nat) (z0 : List ByteArray) (r0 : RowOf w A0 c0 (z0.map Value.string)) (w0 : ∀ s ∈ z0, s.size ≤ maxLen) (a1 : ByteArray) (w1 : a1.size ≤ maxLen) :
    Calls Tryd.prog 6 #[.slice A0 z0.length c0, .string a1] w fun e w' => e = .returned (.bool true) ∧ Below w.heap.size w w' := by
  rw [strs_of] at r0
  unfold maxLen at w1
  have hz : ∀ y ∈ z0.map (fun s => s.data.toList), y.length ≤ 9223372036854775807 := fun y hy => by
    obtain ⟨s, hs, rfl⟩ := List.mem_map.1 hy
    have := w0 s hs
    unfold maxLen at this
    simpa using this
  by_cases hbad : plainL (z0.map (fun s => s.data.toList)) = false ∨ 20 < a1.size
  · have h := blockCodes_early w A0 c0 _ a1 r0 hz w1 hbad
    simp only [List.length_map] at h
    exact h
  · simp only [not_or, Bool.not_eq_false] at hbad
    have h := blockCodes_core w A0 c0 _ a1 r0 hz hbad.1 (by omega)
    simp only [List.length_map] at h
    exact h

end Go.Proofs.YtoleoigpijgboaaDoor
