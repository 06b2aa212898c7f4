/-
  BlockUnder: a paragraph under which a line of signs stands is a heading; behind a blank line it is none: the law's walk.
-/
import Derived.Test.YtoleoigpijgboaaDoorBkA
import Derived.Test.YtoleoigpijgboaaDoorBkP
namespace Go.Proofs.YtoleoigpijgboaaDoor
open Go.RowKit
set_option linter.unusedSimpArgs false
set_option linter.unusedVariables false
set_option maxRecDepth 100000

/-- The first block of a list, the second. -/
theorem BlksAt.one {w : World} {A : Option Addr} {cap : Nat} {x : Blk} {r : List Blk} (h : BlksAt w A cap (x :: r)) : ∃ b off, A = some ⟨b, off, none⟩ ∧ b < w.heap.size ∧ w.cell? ⟨b, off, none⟩ = some (.int .i64 x.kind) ∧ w.cell? ⟨b, off + 1, none⟩ = some (.int .i64 x.depth) ∧ w.cell? ⟨b, off + 2, none⟩ = some (.int .i64 x.n) ∧
      w.cell? ⟨b, off + 3, none⟩ = some (.bool x.tight) ∧ w.cell? ⟨b, off + 4, none⟩ = some (.string ⟨x.text.toArray⟩) ∧ w.cell? ⟨b, off + 5, none⟩ = some (.string ⟨x.info.toArray⟩) := by
  obtain ⟨b, off, e, hb, h0, h1, h2, h3, h4, h5⟩ := h.at (k := 0) (by simp)
  simp only [Nat.zero_mul, Nat.add_zero, List.getElem_cons_zero] at h0 h1 h2 h3 h4 h5
  exact ⟨b, off, e, hb, h0, h1, h2, h3, h4, h5⟩
theorem BlksAt.second {w : World} {b off cap : Nat} {x y : Blk} {r : List Blk} (h : BlksAt w (some ⟨b, off, none⟩) cap (x :: y :: r)) : w.cell? ⟨b, off + 6, none⟩ = some (.int .i64 y.kind) ∧ w.cell? ⟨b, off + 6 + 1, none⟩ = some (.int .i64 y.depth) ∧ w.cell? ⟨b, off + 6 + 2, none⟩ = some (.int .i64 y.n) ∧
      w.cell? ⟨b, off + 6 + 3, none⟩ = some (.bool y.tight) ∧ w.cell? ⟨b, off + 6 + 4, none⟩ = some (.string ⟨y.text.toArray⟩) ∧ w.cell? ⟨b, off + 6 + 5, none⟩ = some (.string ⟨y.info.toArray⟩) := by
  obtain ⟨b', off', e, hb, h0, h1, h2, h3, h4, h5⟩ := h.at (k := 1) (by simp)
  cases e
  simp only [Nat.one_mul, List.getElem_cons_succ, List.getElem_cons_zero] at h0 h1 h2 h3 h4 h5
  exact ⟨h0, h1, h2, h3, h4, h5⟩
def LwRel (S : ByteArray) (w : World) (i : Value) (wr : World) : Prop := ∃ j : Nat, i = .int .i64 j ∧ j ≤ S.size ∧ Low (S.data.toList.take j) ∧ wr = w
theorem low_step {l : List UInt8} {k : Nat} (h : k < l.length) (hl : Low (l.take k)) (hb : 97 ≤ l[k].toNat ∧ l[k].toNat ≤ 122) : Low (l.take (k + 1)) := by
  rw [List.take_succ_eq_append_getElem h]
  intro b hb2
  rcases List.mem_append.1 hb2 with h1 | h1
  · exact hl b h1
  · simp at h1
    subst h1
    exact hb
theorem strs_three {U V : ByteArray} (x : List UInt8) {a b : List UInt8} (h1 : U.data.toList = a) (h2 : V.data.toList = b) : strs [a, b, x] = [.string U, .string V, .string ⟨x.toArray⟩] := by
  subst h1; subst h2; rfl
theorem few_three {a b c : List UInt8} (h1 : a.length ≤ 100) (h2 : b.length ≤ 100) (h3 : c.length ≤ 100) : Few [a, b, c] := ⟨by simp, fun x hx => by
  have h4 := wt_le x
  simp at hx
  rcases hx with rfl | rfl | rfl <;> omega⟩

set_option maxHeartbeats 16000000 in
theorem blockUnder_short (w : World) (S : ByteArray) (n : Nat) (dash : Bool) (h1 : 1 ≤ n) (h9 : n ≤ 9) (hs1 : 1 ≤ S.size) (hs40 : S.size ≤ 40) :
    Calls Tryd.prog 10 #[.string S, .int .i64 n, .bool dash] w fun e w' => e = .returned (.bool true) ∧ Below w.heap.size w w' := by
  have hf1 : decide ((n : Int) < 1) = false := by simp; omega
  have hf2 : decide ((9 : Int) < (n : Int)) = false := by simp; omega
  have hf3 : decide ((40 : Int) < (S.size : Int)) = false := by simp; omega
  have hse := toList_empty (show 0 < S.size from hs1)
  have hsn := toList_ne (show 0 < S.size from hs1)
  have hsn2 : (S.toList == []) = false := by simpa using hsn
  have hSl : S.data.toList.length = S.size := by simp
  have HSL := Lib.hid hSl
  have HRows := Lib.hid (rows_all n (by omega) h1)
  clear hSl
  go_enter Tryd.func10, Tryd.ntmps10
  go_wp2_with fail
  refine (alive9_any _).mono ?_
  rintro e w1 ⟨rfl, b1⟩
  have HB1 := Lib.hid b1
  clear b1
  go_wp2_with fail
  go_loopw [7] (fun i wr => LwRel S w1 i wr) (fun i _ => S.size - (intOf i).toNat)
  case atStart => exact ⟨0, rfl, Nat.zero_le _, fun b hb => by simp at hb, rfl⟩
  case round =>
    obtain ⟨j, rfl, hj, hlow, hwe⟩ := hrel
    have hwe := hwe.symm
    subst hwe
    by_cases hp : j < S.size
    · have hlt : j < S.data.toList.length := by rw [HSL.out]; exact hp
      have HStep := Lib.hid (fun h => low_step hlt hlow h)
      rw [show S.data.toList[j] = S[j] from rfl] at HStep
      clear hlow
      by_cases ha : S[j].toNat < 97
      · have g1 : decide ((S[j].toNat : Int) < 97) = true := by simp; omega
        clear ha
        go_wp2
        go_ret
        exact ⟨rfl, HB1.out⟩
      · have g1 : decide ((S[j].toNat : Int) < 97) = false := by simp; omega
        by_cases hb : 122 < S[j].toNat
        · have g2 : decide ((122 : Int) < (S[j].toNat : Int)) = true := by simp; omega
          clear ha hb
          go_wp2
          go_ret
          exact ⟨rfl, HB1.out⟩
        · have g2 : decide ((122 : Int) < (S[j].toNat : Int)) = false := by simp; omega
          have HL := Lib.hid (HStep.out ⟨by omega, by omega⟩)
          clear ha hb
          go_wp2
          go_roundw
          case rel => exact ⟨j + 1, by go_num, by omega, HL.out, rfl⟩
          case measure => simp [intOf]; omega
    · obtain rfl : j = S.size := by omega
      rw [List.take_of_length_le (by rw [HSL.out]; exact Nat.le_refl _)] at hlow
      have hword : Word S.data.toList := ⟨hlow, fun e => by have := HSL.out; rw [e] at this; simp at this; omega⟩
      have HW := Lib.hid hword
      clear hlow hword
      rename World => wB
      cases dash with
      | false =>
        go_wp2_with fail
        go_loopw [10, 11] (fun v i wr => RepRel [] 61 n wB v i wr) (fun _ i _ => n - (intOf i).toNat)
        case atStart => exact ⟨0, ⟨#[]⟩, rfl, Nat.zero_le _, rfl, rfl, rfl⟩
        case round =>
          obtain ⟨k, U, rfl, hk, rfl, hU, hwe⟩ := hrel
          have hwe := hwe.symm
          subst hwe
          have hszU := text_size hU
          simp only [List.nil_append, List.length_replicate] at hszU
          by_cases hp2 : k < n
          · have HST := Lib.hid (rep_step hU)
            clear hU
            go_wp2
            first
              | (go_roundw
                 case rel => exact ⟨k + 1, _, by go_num, by omega, rfl, HST.out, rfl⟩
                 case measure => simp [intOf]; omega)
              | exact ⟨⟨k + 1, _, by go_num, by omega, rfl, HST.out, rfl⟩, by simp [intOf]; omega⟩
          · obtain rfl : k = n := by omega
            rw [List.nil_append] at hU
            have ea : parseB [S.data.toList, List.replicate k 61, [122]] = [⟨2, 0, 1, false, S.data.toList, []⟩, ⟨1, 0, 0, false, [122], []⟩] := by
              rw [parse_under S.data.toList (List.replicate k 61) [[122]] HW.out 1 (by omega) HRows.out.1]
              rfl
            have eb : parseB [S.data.toList, [], List.replicate k 61] = ⟨1, 0, 0, false, S.data.toList, []⟩ :: parseB [List.replicate k 61] := by
              have := parse_words S.data.toList [] ([] :: [List.replicate k 61]) HW.out (fun y hy => by simp at hy) (paraN_blank0 0 rfl _)
              rw [List.nil_append, parseB_blank (s := ([] : List UInt8)) rfl, Lib.join_one] at this
              exact this
            have hb1 := HRows.out.2.2.1
            have ra := rowOf_lit wB 9 [.string S, .string U, .string ⟨([122] : List UInt8).toArray⟩] (by unfold maxLen; simp)
            rw [← strs_three [122] rfl hU] at ra
            have ca := bparse_any (some ⟨wB.heap.size, 0, none⟩) 3 [S.data.toList, List.replicate k 61, [122]] _ ra (few_three (by rw [HSL.out]; omega) (by rw [List.length_replicate]; omega) (by simp))
            rw [ea, strs_three [122] rfl hU] at ca
            have qa : Below wB.heap.size wB (wB.alloc (.cells #[.string S, .string U, .string ⟨#[122]⟩] 9)) := (Below.refl _ wB).alloc (Nat.le_refl _) _
            have HQa := Lib.hid (HB1.out.then qa)
            have HU := Lib.hid hU
            have HEB := Lib.hid eb
            have HB01 := Lib.hid hb1
            clear ea eb hb1 ra qa hU
            go_wp2_with fail
            refine ca.mono ?_
            rintro e w2 ⟨v2, rfl, hown2, b2⟩
            have HQ2 := Lib.hid (HQa.out.then b2)
            have HO2 := Lib.hid hown2
            clear hown2 b2 ca
            have rb : RowOf (w2.alloc (.cells #[.string S, .string ⟨#[]⟩, .string U] 9)) (some ⟨w2.heap.size, 0, none⟩) 3 (strs [S.data.toList, [], List.replicate k 61]) := by
              have := rowOf_lit w2 9 [.string S, .string ⟨#[]⟩, .string U] (by unfold maxLen; simp)
              rw [show strs [S.data.toList, [], List.replicate k 61] = [.string S, .string ⟨#[]⟩, .string U] from by rw [← HU.out]; rfl]
              exact this
            have cb := bparse_any (some ⟨w2.heap.size, 0, none⟩) 3 [S.data.toList, [], List.replicate k 61] _ rb (few_three (by rw [HSL.out]; omega) (by simp) (by rw [List.length_replicate]; omega))
            rw [HEB.out] at cb
            have qb : Below w2.heap.size w2 (w2.alloc (.cells #[.string S, .string ⟨#[]⟩, .string U] 9)) := (Below.refl _ w2).alloc (Nat.le_refl _) _
            have HQb := Lib.hid qb
            clear rb qb
            go_wp2_with fail
            refine cb.mono ?_
            rintro e w3 ⟨v3, rfl, hown3, b3⟩
            have hown2 := ownsRow_below HO2.out (HQb.out.then b3)
            obtain ⟨A2, c2, rfl, hat2⟩ := BlksAt.own hown2
            obtain ⟨A3, c3, rfl, hat3⟩ := BlksAt.own hown3
            have HQ3 := Lib.hid (HQ2.out.then (HQb.out.then b3))
            obtain ⟨b8, o8, hA8, _, a00, a01, a02, a03, a04, a05⟩ := hat2.one
            subst hA8
            obtain ⟨a10, _⟩ := hat2.second
            have hle2 := hat2.le
            have hcm2 := hat2.cap
            obtain ⟨P, hP⟩ : ∃ P, parseB [List.replicate k 61] = P := ⟨_, rfl⟩
            have hb01 := HB01.out
            rw [hP] at hat3 hb01
            cases P with
            | nil => simp at hb01
            | cons p P =>
              simp only [List.getElem?_cons_zero, Option.map_some, Option.some.injEq, decide_eq_false_iff_not] at hb01
              obtain ⟨b7, o7, hA7, _, c00, c01, c02, c03, c04, c05⟩ := hat3.one
              subst hA7
              obtain ⟨c10, c11, c12, c13, c14, c15⟩ := hat3.second
              clear c01 c02 c03 c04 c05 c11 c12 c13 c14 c15
              have hle3 := hat3.le
              have hcm3 := hat3.cap
              unfold maxLen at hcm2 hcm3
              rw [hP]
              simp only [List.length_cons, List.length_nil] at hle2 hle3 ⊢
              rw [show (⟨S.data.toList.toArray⟩ : ByteArray) = S from Lib.mk_data S] at a04
              have g5 : (p.kind == 2) = false := by simpa using hb01
              have g6 : (p.kind != 2) = true := by simp [hb01]
              generalize p.kind = pk at *
              have hlP : decide ((2 : Int) ≤ (((P.length + 1 + 1 : Nat) : Int))) = true := by simp; omega
              generalize hPl : P.length + 1 + 1 = N at *
              have h2N : (2 : Int) ≤ (N : Int) := by omega
              have h2Nn : 2 ≤ N := by omega
              clear hPl hb01 hown2 hown3 b3 cb hat2 hat3 hP
              go_wp2
              go_ret
              exact ⟨ret_bool (by simp), HQ3.out⟩
      | true =>
        go_wp2_with fail
        go_loopw [10, 11] (fun v i wr => RepRel [] 45 n wB v i wr) (fun _ i _ => n - (intOf i).toNat)
        case atStart => exact ⟨0, ⟨#[]⟩, rfl, Nat.zero_le _, rfl, rfl, rfl⟩
        case round =>
          obtain ⟨k, U, rfl, hk, rfl, hU, hwe⟩ := hrel
          have hwe := hwe.symm
          subst hwe
          have hszU := text_size hU
          simp only [List.nil_append, List.length_replicate] at hszU
          by_cases hp2 : k < n
          · have HST := Lib.hid (rep_step hU)
            clear hU
            go_wp2
            first
              | (go_roundw
                 case rel => exact ⟨k + 1, _, by go_num, by omega, rfl, HST.out, rfl⟩
                 case measure => simp [intOf]; omega)
              | exact ⟨⟨k + 1, _, by go_num, by omega, rfl, HST.out, rfl⟩, by simp [intOf]; omega⟩
          · obtain rfl : k = n := by omega
            rw [List.nil_append] at hU
            have ea : parseB [S.data.toList, List.replicate k 45, [122]] = [⟨2, 0, 2, false, S.data.toList, []⟩, ⟨1, 0, 0, false, [122], []⟩] := by
              rw [parse_under S.data.toList (List.replicate k 45) [[122]] HW.out 2 (by omega) HRows.out.2.1]
              rfl
            have eb : parseB [S.data.toList, [], List.replicate k 45] = ⟨1, 0, 0, false, S.data.toList, []⟩ :: parseB [List.replicate k 45] := by
              have := parse_words S.data.toList [] ([] :: [List.replicate k 45]) HW.out (fun y hy => by simp at hy) (paraN_blank0 0 rfl _)
              rw [List.nil_append, parseB_blank (s := ([] : List UInt8)) rfl, Lib.join_one] at this
              exact this
            have hb1 := HRows.out.2.2.2
            have ra := rowOf_lit wB 9 [.string S, .string U, .string ⟨([122] : List UInt8).toArray⟩] (by unfold maxLen; simp)
            rw [← strs_three [122] rfl hU] at ra
            have ca := bparse_any (some ⟨wB.heap.size, 0, none⟩) 3 [S.data.toList, List.replicate k 45, [122]] _ ra (few_three (by rw [HSL.out]; omega) (by rw [List.length_replicate]; omega) (by simp))
            rw [ea, strs_three [122] rfl hU] at ca
            have qa : Below wB.heap.size wB (wB.alloc (.cells #[.string S, .string U, .string ⟨#[122]⟩] 9)) := (Below.refl _ wB).alloc (Nat.le_refl _) _
            have HQa := Lib.hid (HB1.out.then qa)
            have HU := Lib.hid hU
            have HEB := Lib.hid eb
            have HB01 := Lib.hid hb1
            clear ea eb hb1 ra qa hU
            go_wp2_with fail
            refine ca.mono ?_
            rintro e w2 ⟨v2, rfl, hown2, b2⟩
            have HQ2 := Lib.hid (HQa.out.then b2)
            have HO2 := Lib.hid hown2
            clear hown2 b2 ca
            have rb : RowOf (w2.alloc (.cells #[.string S, .string ⟨#[]⟩, .string U] 9)) (some ⟨w2.heap.size, 0, none⟩) 3 (strs [S.data.toList, [], List.replicate k 45]) := by
              have := rowOf_lit w2 9 [.string S, .string ⟨#[]⟩, .string U] (by unfold maxLen; simp)
              rw [show strs [S.data.toList, [], List.replicate k 45] = [.string S, .string ⟨#[]⟩, .string U] from by rw [← HU.out]; rfl]
              exact this
            have cb := bparse_any (some ⟨w2.heap.size, 0, none⟩) 3 [S.data.toList, [], List.replicate k 45] _ rb (few_three (by rw [HSL.out]; omega) (by simp) (by rw [List.length_replicate]; omega))
            rw [HEB.out] at cb
            have qb : Below w2.heap.size w2 (w2.alloc (.cells #[.string S, .string ⟨#[]⟩, .string U] 9)) := (Below.refl _ w2).alloc (Nat.le_refl _) _
            have HQb := Lib.hid qb
            clear rb qb
            go_wp2_with fail
            refine cb.mono ?_
            rintro e w3 ⟨v3, rfl, hown3, b3⟩
            have hown2 := ownsRow_below HO2.out (HQb.out.then b3)
            obtain ⟨A2, c2, rfl, hat2⟩ := BlksAt.own hown2
            obtain ⟨A3, c3, rfl, hat3⟩ := BlksAt.own hown3
            have HQ3 := Lib.hid (HQ2.out.then (HQb.out.then b3))
            obtain ⟨b8, o8, hA8, _, a00, a01, a02, a03, a04, a05⟩ := hat2.one
            subst hA8
            obtain ⟨a10, _⟩ := hat2.second
            have hle2 := hat2.le
            have hcm2 := hat2.cap
            obtain ⟨P, hP⟩ : ∃ P, parseB [List.replicate k 45] = P := ⟨_, rfl⟩
            have hb01 := HB01.out
            rw [hP] at hat3 hb01
            cases P with
            | nil => simp at hb01
            | cons p P =>
              simp only [List.getElem?_cons_zero, Option.map_some, Option.some.injEq, decide_eq_false_iff_not] at hb01
              obtain ⟨b7, o7, hA7, _, c00, c01, c02, c03, c04, c05⟩ := hat3.one
              subst hA7
              obtain ⟨c10, c11, c12, c13, c14, c15⟩ := hat3.second
              clear c01 c02 c03 c04 c05 c11 c12 c13 c14 c15
              have hle3 := hat3.le
              have hcm3 := hat3.cap
              unfold maxLen at hcm2 hcm3
              rw [hP]
              simp only [List.length_cons, List.length_nil] at hle2 hle3 ⊢
              rw [show (⟨S.data.toList.toArray⟩ : ByteArray) = S from Lib.mk_data S] at a04
              have g5 : (p.kind == 2) = false := by simpa using hb01
              have g6 : (p.kind != 2) = true := by simp [hb01]
              generalize p.kind = pk at *
              have hlP : decide ((2 : Int) ≤ (((P.length + 1 + 1 : Nat) : Int))) = true := by simp; omega
              generalize hPl : P.length + 1 + 1 = N at *
              have h2N : (2 : Int) ≤ (N : Int) := by omega
              have h2Nn : 2 ≤ N := by omega
              clear hPl hb01 hown2 hown3 b3 cb hat2 hat3 hP
              go_wp2
              go_ret
              exact ⟨ret_bool (by simp), HQ3.out⟩

theorem blockUnder_walk (w : World) (a0 : ByteArray) (w0 : a0.size ≤ maxLen) (a1 : Int) (w1 : (Lit.int .i64 a1).wf = true) (a2 : Bool) :
    Calls Tryd.prog 10 #[.string a0, .int .i64 a1, .bool a2] w fun e w' => e = .returned (.bool true) ∧ Below w.heap.size w w' := by
  unfold maxLen at w0
  have hor : decide (a1 < 1) = true ∨ (decide (a1 < 1) = false ∧ decide (9 < a1) = true) ∨ (decide (a1 < 1) = false ∧ decide (9 < a1) = false) := by
    by_cases h1 : a1 < 1
    · exact Or.inl (by simpa using h1)
    · by_cases h2 : 9 < a1
      · exact Or.inr (Or.inl ⟨by simpa using h1, by simpa using h2⟩)
      · exact Or.inr (Or.inr ⟨by simpa using h1, by simpa using h2⟩)
  rcases hor with f1 | ⟨f1, f2⟩ | ⟨f1, f2⟩
  · go_enter Tryd.func10, Tryd.ntmps10
    go_wp2_with fail
    refine (alive9_any _).mono ?_
    rintro e w1 ⟨rfl, b1⟩
    go_wp2
    go_ret
    exact ⟨rfl, b1⟩
  · go_enter Tryd.func10, Tryd.ntmps10
    go_wp2_with fail
    refine (alive9_any _).mono ?_
    rintro e w1 ⟨rfl, b1⟩
    go_wp2
    go_ret
    exact ⟨rfl, b1⟩
  · by_cases h0 : a0.size = 0
    · have hn : a0.data.toList = [] := List.eq_nil_of_length_eq_zero (by simpa using h0)
      have hse : a0.toList.isEmpty = true := by rw [ByteArray.toList_eq, hn]; rfl
      have hse2 : (a0.toList == []) = true := by rw [ByteArray.toList_eq, hn]; rfl
      have hse3 : a0.toList = [] := by rw [ByteArray.toList_eq, hn]
      clear hn
      go_enter Tryd.func10, Tryd.ntmps10
      go_wp2_with fail
      refine (alive9_any _).mono ?_
      rintro e w1 ⟨rfl, b1⟩
      go_wp2
      go_ret
      exact ⟨rfl, b1⟩
    · by_cases h40 : 40 < a0.size
      · have hse := toList_empty (show 0 < a0.size from by omega)
        have hsn := toList_ne (show 0 < a0.size from by omega)
        have hsn2 : (a0.toList == []) = false := by simpa using hsn
        have f3 : decide ((40 : Int) < (a0.size : Int)) = true := by simp; omega
        go_enter Tryd.func10, Tryd.ntmps10
        go_wp2_with fail
        refine (alive9_any _).mono ?_
        rintro e w1 ⟨rfl, b1⟩
        go_wp2
        go_ret
        exact ⟨rfl, b1⟩
      · obtain ⟨n, rfl⟩ : ∃ n : Nat, a1 = n := ⟨a1.toNat, by simp at f1; omega⟩
        simp at f1 f2
        exact blockUnder_short w a0 n a2 (by omega) (by omega) (by omega) (by omega)

end Go.Proofs.YtoleoigpijgboaaDoor
