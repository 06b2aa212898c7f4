/-
  VeilDivs: in a division that is not seen nothing is left, however it is made; the law's walk (under way).
-/
import Derived.Test.YtneiheifjgffaaaGreatDoorVlaI
namespace Go.Proofs.YtneiheifjgffaaaGreatDoor
open Go.RowKit
set_option linter.unusedSimpArgs false
set_option linter.unusedVariables false
set_option maxRecDepth 100000

def LtrRel (t : ByteArray) (w : World) (i : Value) (wr : World) : Prop :=
  ∃ k : Nat, i = .int .i64 k ∧ k ≤ t.size ∧ (∀ m (h : m < t.size), m < k → 97 ≤ t[m].toNat ∧ t[m].toNat ≤ 122) ∧ wr = w

def headR : Txt := joinL [divLine nRight]
def OutRel (xs : List Txt) (w : World) (d o i : Value) (wr : World) : Prop :=
  ∃ (k c : Nat) (Y : List Txt) (D : ByteArray), i = .int .i64 k ∧ k ≤ xs.length ∧ d = .string D ∧ D.data.toList = headR ++ joinL Y ∧ D.size ≤ 11 + 61 * k ∧ o = .int .i64 c ∧ c = Y.countP (· == divLow) ∧ c ≤ k ∧ (∀ y ∈ Y, Within y) ∧ wr = w
def CleanRel (x : ByteArray) (w : World) (i : Value) (wr : World) : Prop :=
  ∃ k : Nat, i = .int .i64 k ∧ k ≤ x.size ∧ (∀ m (h : m < x.size), m < k → x[m] ≠ 10 ∧ x[m] ≠ 13) ∧ wr = w
def CutRel (w : World) (v : Value) (wr : World) : Prop :=
  ∃ y : Txt, v = .string ⟨y.toArray⟩ ∧ NoLC y ∧ y.length ≤ 60 ∧ wr = w
theorem cut_last (y : Txt) (b : UInt8) : (⟨(y ++ [b]).toArray⟩ : ByteArray).extract 0 y.length = ⟨y.toArray⟩ := by
  rw [ext_bytes]
  apply ByteArray.ext
  apply Array.ext'
  simp only [List.drop_zero, Nat.sub_zero]
  rw [List.take_left' rfl]
theorem last_is (y : Txt) (b : UInt8) (h : y.length < (⟨(y ++ [b]).toArray⟩ : ByteArray).size) : (⟨(y ++ [b]).toArray⟩ : ByteArray)[y.length] = b := by
  have h2 : y.length < (y ++ [b]).length := by simp
  have e : (⟨(y ++ [b]).toArray⟩ : ByteArray)[y.length] = (y ++ [b])[y.length]'h2 := rfl
  rw [e, List.getElem_append_right (by omega)]
  simp
theorem doc_grow {D : ByteArray} {Y : List Txt} (h : D.data.toList = headR ++ joinL Y) (y : Txt) : (D ++ ((⟨y.toArray⟩ : ByteArray) ++ (⟨#[10]⟩ : ByteArray))).data.toList = headR ++ joinL (Y ++ [y]) := by
  rw [joinL_append]; simp [h, joinL]
theorem doc_size (D : ByteArray) (y : Txt) : (D ++ ((⟨y.toArray⟩ : ByteArray) ++ (⟨#[10]⟩ : ByteArray))).size = D.size + (y.length + 1) := by
  rw [ByteArray.size_append, ByteArray.size_append, str_size]; rfl
theorem count_no (Y : List Txt) (y : Txt) (h : y.take 3 ≠ [58, 58, 58]) : (Y ++ [y]).countP (· == divLow) = Y.countP (· == divLow) := by
  rw [List.countP_append, List.countP_cons_of_neg (by rintro e; rw [beq_iff_eq] at e; subst e; exact h rfl)]; rfl
theorem within_no {y : Txt} (h1 : NoLC y) (h : y.take 3 ≠ [58, 58, 58]) : Within y := ⟨h1, fun e => absurd (by rw [prefix_of e]; rfl) h⟩
theorem within_low : Within divLow := ⟨by unfold NoLC; decide +kernel, fun _ => rfl⟩
theorem within_more {Y : List Txt} {y : Txt} (h1 : ∀ z ∈ Y, Within z) (h2 : Within y) : ∀ z ∈ Y ++ [y], Within z := by
  intro z hz
  rw [List.mem_append, List.mem_singleton] at hz
  rcases hz with hz | rfl
  · exact h1 z hz
  · exact h2
def ShutRel (D : ByteArray) (c : Nat) (w : World) (d i : Value) (wr : World) : Prop :=
  ∃ (m : Nat) (E : ByteArray), i = .int .i64 m ∧ m ≤ c ∧ d = .string E ∧ E.data.toList = D.data.toList ++ joinL (ends m) ∧ E.size ≤ D.size + 4 * m ∧ wr = w
theorem shut_grow {D E : ByteArray} {m : Nat} (h : E.data.toList = D.data.toList ++ joinL (ends m)) : (E ++ (⟨#[58, 58, 58, 10]⟩ : ByteArray)).data.toList = D.data.toList ++ joinL (ends (m + 1)) := by
  have e : ends (m + 1) = ends m ++ [divE] := by unfold ends; rw [List.replicate_succ']
  rw [e, joinL_append]; simp [h, joinL, divE]
/-- The law's 'end'. -/
theorem end7_any (w : World) (a : ByteArray) (ha : a.size ≤ 1000) : Calls Tryz.prog 28 #[.string a] w fun e w' => (∃ E : ByteArray, e = .returned (.string E) ∧ E.data.toList = endL a.data.toList ∧ E.size ≤ a.size + 1) ∧ w' = w := by
  obtain ⟨t, rfl⟩ : ∃ t : Txt, a = ⟨t.toArray⟩ := ⟨a.data.toList, by simp⟩
  by_cases h0 : t = []
  · subst h0
    go_enter Tryz.func28, Tryz.ntmps28
    go_wp2
    go_ret
    exact ⟨⟨_, rfl, rfl, by decide⟩, rfl⟩
  · have fe0 : t.isEmpty = false := by rw [List.isEmpty_eq_false_iff]; exact h0
    have fe1 : (t != []) = true := by simpa using h0
    have hcat1 := fun W => run_string_add_sum (P := Tryz.prog) W ⟨t.toArray⟩ ⟨#[10]⟩ (by show _ + 1 ≤ _; omega)
    have H0 := Lib.hid h0
    clear h0
    go_enter Tryz.func28, Tryz.ntmps28
    go_wp2
    go_ret
    refine ⟨⟨_, rfl, ?_, ?_⟩, rfl⟩
    · unfold endL; rw [if_neg (by simpa using H0.out)]; simp
    · rw [ByteArray.size_append]; exact Nat.le_refl _
def sizeV (v : Value) : Nat := match v with | .string y => y.size | _ => 0

set_option maxHeartbeats 8000000 in
theorem veilDivs_core (w : World) (h7 : W7 w) (A0 : Option Addr) (c0 : Nat) (xs : List Txt) (r0 : RowOf w A0 c0 (strs xs)) (a1 : ByteArray) (w1 : a1.size ≤ maxLen) :
    Calls Tryz.prog 9 #[.slice A0 xs.length c0, .string a1] w fun e w' => e = .returned (.bool true) ∧ Below w.heap.size w w' := by
  have ca := alive7_any w h7
  have l0 := r0.1
  have m0 := r0.2.1
  rw [strs_length] at l0
  unfold maxLen at m0 w1
  by_cases hbig : 12 < xs.length
  · go_enter Tryz.func9, Tryz.ntmps9
    go_wp2_with fail
    refine ca.mono ?_
    rintro e w1 ⟨rfl, b1⟩
    go_wp2
    go_ret
    exact ⟨rfl, b1⟩
  by_cases hbig2 : 40 < a1.size
  · go_enter Tryz.func9, Tryz.ntmps9
    go_wp2_with fail
    refine ca.mono ?_
    rintro e w1 ⟨rfl, b1⟩
    go_wp2
    go_ret
    exact ⟨rfl, b1⟩
  have hsz : a1.size ≤ 40 := by omega
  have hxl : xs.length ≤ 12 := by omega
  clear hbig hbig2
  have HR0 := Lib.hid r0
  clear r0
  go_enter Tryz.func9, Tryz.ntmps9
  go_wp2_with fail
  refine ca.mono ?_
  rintro e w1 ⟨rfl, b1⟩
  have HB1 := Lib.hid b1
  have HW1 := Lib.hid (h7.below b1)
  clear b1 ca h7
  go_wp2_with fail
  go_loopw [5] (fun i wr => LtrRel a1 w1 i wr) (fun i _ => a1.size - (intOf i).toNat)
  case atStart => exact ⟨0, rfl, Nat.zero_le _, fun _ _ h => absurd h (Nat.not_lt_zero _), rfl⟩
  case round =>
    obtain ⟨k, rfl, hk, hl, hwe⟩ := hrel
    have hwe := hwe.symm
    subst hwe
    have HL := Lib.hid hl
    clear hl
    by_cases hq : k < a1.size
    · by_cases h97 : (a1[k]'hq).toNat < 97
      · have e1 : decide ((((a1[k]'hq).toNat : Nat) : Int) < 97) = true := decide_eq_true (by omega)
        go_wp2
        go_ret
        exact ⟨rfl, HB1.out⟩
      · have e1 : decide ((((a1[k]'hq).toNat : Nat) : Int) < 97) = false := decide_eq_false (by omega)
        by_cases h122 : 122 < (a1[k]'hq).toNat
        · have e2 : decide ((122 : Int) < (((a1[k]'hq).toNat : Nat) : Int)) = true := decide_eq_true (by omega)
          have e3 : decide ((((a1[k]'hq).toNat : Nat) : Int) > 122) = true := decide_eq_true (by omega)
          go_wp2
          go_ret
          exact ⟨rfl, HB1.out⟩
        · have e2 : decide ((122 : Int) < (((a1[k]'hq).toNat : Nat) : Int)) = false := decide_eq_false (by omega)
          have e3 : decide ((((a1[k]'hq).toNat : Nat) : Int) > 122) = false := decide_eq_false (by omega)
          go_wp2
          go_roundw
          case rel =>
            refine ⟨k + 1, by go_num, by omega, fun m hm hmk => ?_, rfl⟩
            by_cases e : m = k
            · subst e; exact ⟨by omega, by omega⟩
            · exact HL.out m hm (by omega)
          case measure => simp [intOf]; omega
    · have hLt : ∀ b ∈ a1.data.toList, 97 ≤ b.toNat ∧ b.toNat ≤ 122 := by
        intro b hb
        obtain ⟨m, hm, rfl⟩ := List.getElem_of_mem hb
        have hm2 : m < a1.size := by simpa using hm
        exact HL.out m hm2 (by omega)
      have HLt := Lib.hid hLt
      clear hLt
      clear HL
      go_wp2_with fail
      refine (diamond_any _).mono ?_
      rintro e w2 ⟨d1, d2, rfl, hd, b2⟩
      have c1 := newD_any (HW1.out.below b2) hd 1 (by decide)
      rw [show (⟨(dNm 1).toArray⟩ : ByteArray) = ⟨#[108, 101, 102, 116]⟩ from rfl] at c1
      have HB2 := Lib.hid (HB1.out.then b2)
      clear b2 hd
      go_wp2_with fail
      refine c1.mono ?_
      rintro e w3 ⟨b, rfl, hbl, hs, b3⟩
      have HB3 := Lib.hid (HB2.out.then b3)
      have HS3 := Lib.hid hs
      have HR3 := Lib.hid (HR0.out.below HB3.out)
      clear b3 hs c1
      go_wp2_with fail
      go_loopw [8, 9, 52] (fun d o i wr => OutRel xs w3 d o i wr) (fun _ _ i _ => xs.length - (intOf i).toNat)
      case atStart => exact ⟨0, 0, [], _, rfl, Nat.zero_le _, rfl, rfl, by decide, rfl, rfl, Nat.le_refl _, by simp, rfl⟩
      case round =>
        obtain ⟨k, c, Y, D, rfl, hk, rfl, hD, hDs, rfl, hc, hck, hY, hwe⟩ := hrel
        have hwe := hwe.symm
        subst hwe
        have HD := Lib.hid hD
        have HC := Lib.hid hc
        have HY := Lib.hid hY
        clear hD hc hY
        by_cases hp : k < xs.length
        · obtain ⟨g1, o1, rfl, hg1, hcell⟩ := HR3.out.cellAt hp
          by_cases h60 : 60 < (xs[k]'hp).length
          · have hx60 : 60 < (⟨(xs[k]'hp).toArray⟩ : ByteArray).size := by rw [str_size]; exact h60
            go_wp2
            go_ret
            exact ⟨rfl, HB3.out⟩
          · obtain ⟨x, hx⟩ : ∃ x : ByteArray, x = ⟨(xs[k]'hp).toArray⟩ := ⟨_, rfl⟩
            have hxs : x.size ≤ 60 := by rw [hx, str_size]; omega
            rw [← hx] at hcell
            clear hx h60
            go_wp2_with fail
            go_loopw [12] (fun i wr => CleanRel x w3 i wr) (fun i _ => x.size - (intOf i).toNat)
            case atStart => exact ⟨0, rfl, Nat.zero_le _, fun _ _ h => absurd h (Nat.not_lt_zero _), rfl⟩
            case round =>
              obtain ⟨m, rfl, hm, hl, hwe⟩ := hrel
              have hwe := hwe.symm
              subst hwe
              have HL := Lib.hid hl
              clear hl
              by_cases hq2 : m < x.size
              · have t8 : ∀ (b c : UInt8) (n : Nat), n = c.toNat → (((b.toNat : Nat) : Int) == (n : Int)) = decide (b = c) := by
                  intro b c n hn
                  rw [Bool.eq_iff_iff, beq_iff_eq, decide_eq_true_eq, hn]
                  constructor
                  · intro h; exact UInt8.toNat_inj.1 (by omega)
                  · rintro rfl; rfl
                have e1 : (((x[m]'hq2).toNat : Int) == 10) = decide (x[m]'hq2 = 10) := t8 (x[m]'hq2) 10 10 rfl
                have e2 : (((x[m]'hq2).toNat : Int) == 13) = decide (x[m]'hq2 = 13) := t8 (x[m]'hq2) 13 13 rfl
                clear t8
                by_cases h10 : x[m]'hq2 = 10
                · rw [decide_eq_true h10] at e1
                  clear e2 h10
                  go_wp2
                  go_ret
                  exact ⟨rfl, HB3.out⟩
                · by_cases h13 : x[m]'hq2 = 13
                  · rw [decide_eq_false h10] at e1
                    rw [decide_eq_true h13] at e2
                    clear h10 h13
                    go_wp2
                    go_ret
                    exact ⟨rfl, HB3.out⟩
                  · rw [decide_eq_false h10] at e1
                    rw [decide_eq_false h13] at e2
                    have H10 := Lib.hid h10
                    have H13 := Lib.hid h13
                    clear h10 h13
                    go_wp2
                    go_roundw
                    case rel =>
                      refine ⟨m + 1, by go_num, by omega, fun n hn hnk => ?_, rfl⟩
                      by_cases e : n = m
                      · subst e; exact ⟨H10.out, H13.out⟩
                      · exact HL.out n hn (by omega)
                    case measure => simp [intOf]; omega
              · have hNo : NoLC x.data.toList := by
                  intro b hb
                  obtain ⟨n, hn, rfl⟩ := List.getElem_of_mem hb
                  have hn2 : n < x.size := by simpa using hn
                  exact HL.out n hn2 (by omega)
                have HNo := Lib.hid hNo
                clear hNo HL
                go_wp2_with fail
                go_loopw [11] (fun v wr => CutRel w3 v wr) (fun v _ => sizeV v)
                case atStart => exact ⟨x.data.toList, rfl, HNo.out, by simpa using hxs, rfl⟩
                case round =>
                  obtain ⟨y, rfl, hNy, hy60, hwe⟩ := hrel
                  have hwe := hwe.symm
                  subst hwe
                  by_cases hy0 : y = []
                  · have fe0 : y.isEmpty = true := by rw [hy0]; rfl
                    have fe1 : (y != []) = false := by rw [hy0]; rfl
                    have hys : (⟨y.toArray⟩ : ByteArray).size ≤ 2 := by rw [hy0]; decide
                    have hyl : y.length ≤ 2 := by rw [hy0]; decide
                    have HY0 := Lib.hid hy0
                    clear hy0 hNy hy60
                    have hcat1 := fun W => run_string_add_sum (P := Tryz.prog) W ⟨y.toArray⟩ ⟨#[10]⟩ (by show _ + 1 ≤ _; omega)
                    have hcat2 := fun W => run_string_add_sum (P := Tryz.prog) W D ((⟨y.toArray⟩ : ByteArray) ++ ⟨#[10]⟩) (by rw [ByteArray.size_append]; show _ + (_ + 1) ≤ _; omega)
                    go_wp2
                    go_roundw
                    case rel =>
                      have hy0 := HY0.out
                      have hyl : y.length = 0 := by rw [hy0]; rfl
                      have hno : y.take 3 ≠ [58, 58, 58] := by rw [hy0]; decide
                      exact ⟨k + 1, c, Y ++ [y], _, by go_num, by omega, rfl, doc_grow HD.out y, by rw [doc_size]; omega, rfl, by rw [count_no Y y hno]; exact HC.out, by omega, within_more HY.out (within_no (by rw [hy0]; unfold NoLC; simp) hno), rfl⟩
                    case measure => simp [intOf]; omega
                  · obtain ⟨z, bz, hyz⟩ : ∃ z bz, y = z ++ [bz] := by
                      rcases List.eq_nil_or_concat y with h | ⟨z, bz, h⟩
                      · exact absurd h hy0
                      · exact ⟨z, bz, by rw [h, List.concat_eq_append]⟩
                    obtain ⟨q, hq⟩ : ∃ q, q = z.length := ⟨_, rfl⟩
                    have hXs : (⟨y.toArray⟩ : ByteArray).size = q + 1 := by rw [str_size, hyz, List.length_append, hq]; rfl
                    have hXq : q < (⟨y.toArray⟩ : ByteArray).size := by omega
                    have hlast : (⟨y.toArray⟩ : ByteArray)[q] = bz := by subst hyz; subst hq; exact last_is z bz hXq
                    have hex : (⟨y.toArray⟩ : ByteArray).extract 0 q = ⟨z.toArray⟩ := by subst hyz; subst hq; exact cut_last z bz
                    have hzN : NoLC z := fun b hb => hNy b (by rw [hyz]; simp [hb])
                    have hz60 : z.length ≤ 60 := by rw [hyz] at hy60; simp at hy60; omega
                    have hq60 : q ≤ 60 := by omega
                    have fe0 : y.isEmpty = false := by rw [List.isEmpty_eq_false_iff]; exact hy0
                    have fe1 : (y != []) = true := by simpa using hy0
                    have HZN := Lib.hid hzN
                    have HQ := Lib.hid hq
                    have HZ6 := Lib.hid hz60
                    have HZS := Lib.hid (show (⟨z.toArray⟩ : ByteArray).size = q from by rw [str_size, hq])
                    have HNY := Lib.hid hNy
                    have HY6 := Lib.hid hy60
                    clear hNy hy60 hzN hq hz60 hyz hy0
                    by_cases hb32 : bz = 32
                    · have f32 : (((⟨y.toArray⟩ : ByteArray)[q].toNat : Int) == 32) = true := by rw [hlast, hb32]; rfl
                      clear hlast hb32
                      go_wp2
                      exact ⟨⟨z, rfl, HZN.out, HZ6.out, rfl⟩, by show (⟨z.toArray⟩ : ByteArray).size < (⟨y.toArray⟩ : ByteArray).size; rw [HZS.out, hXs]; omega⟩
                    · have f32 : (((⟨y.toArray⟩ : ByteArray)[q].toNat : Int) == 32) = false := by
                        rw [hlast, beq_eq_false_iff_ne]
                        intro e
                        exact hb32 (UInt8.toNat_inj.1 (by have : (32 : UInt8).toNat = 32 := rfl; omega))
                      clear hlast hb32 hex
                      by_cases h3 : (⟨y.toArray⟩ : ByteArray).size < 3
                      · have d3 : decide (3 ≤ (((⟨y.toArray⟩ : ByteArray).size : Nat) : Int)) = false := decide_eq_false (by omega)
                        have d3' : decide ((((⟨y.toArray⟩ : ByteArray).size : Nat) : Int) ≥ 3) = false := d3
                        have hcat1 := fun W => run_string_add_sum (P := Tryz.prog) W ⟨y.toArray⟩ ⟨#[10]⟩ (by show _ + 1 ≤ _; omega)
                        have hcat2 := fun W => run_string_add_sum (P := Tryz.prog) W D ((⟨y.toArray⟩ : ByteArray) ++ ⟨#[10]⟩) (by rw [ByteArray.size_append]; show _ + (_ + 1) ≤ _; omega)
                        have hno : y.take 3 ≠ [58, 58, 58] := by
                          intro e
                          have := congrArg List.length e
                          rw [List.length_take] at this
                          rw [str_size] at h3
                          simp at this
                          omega
                        have HNO := Lib.hid hno
                        clear hno
                        go_wp2
                        go_roundw
                        case rel =>
                          have hy6 := HY6.out
                          exact ⟨k + 1, c, Y ++ [y], _, by go_num, by omega, rfl, doc_grow HD.out y, by rw [doc_size]; omega, rfl, by rw [count_no Y y HNO.out]; exact HC.out, by omega, within_more HY.out (within_no HNY.out HNO.out), rfl⟩
                        case measure => simp [intOf]; omega
                      · obtain ⟨t3, ht3⟩ : ∃ t3 : ByteArray, t3 = (⟨y.toArray⟩ : ByteArray).extract 0 3 := ⟨_, rfl⟩
                        have d3 : decide (3 ≤ (((⟨y.toArray⟩ : ByteArray).size : Nat) : Int)) = true := decide_eq_true (by omega)
                        have d3' : decide ((((⟨y.toArray⟩ : ByteArray).size : Nat) : Int) ≥ 3) = true := d3
                        by_cases hpre : y.take 3 = [58, 58, 58]
                        · have e3 : (((⟨y.toArray⟩ : ByteArray).extract 0 3).toList == [58, 58, 58]) = true := by
                            rw [ext_bytes]; simp [hpre]
                          have HPR := Lib.hid hpre
                          clear hpre
                          have hcat2 := fun W => run_string_add_sum (P := Tryz.prog) W D ((⟨#[58, 58, 58, 123, 108, 111, 119, 125]⟩ : ByteArray) ++ ⟨#[10]⟩) (by rw [ByteArray.size_append]; show _ + (8 + 1) ≤ _; omega)
                          go_wp2
                          go_roundw
                          case rel =>
                            have hg := doc_grow HD.out divLow
                            have hgs := doc_size D divLow
                            have e8 : divLow.length = 8 := by decide
                            exact ⟨k + 1, c + 1, Y ++ [divLow], _, by go_num, by omega, rfl, hg, by show (D ++ ((⟨divLow.toArray⟩ : ByteArray) ++ ⟨#[10]⟩)).size ≤ _; rw [hgs]; omega, by go_num, by rw [List.countP_append, ← HC.out]; rfl, by omega, within_more HY.out within_low, rfl⟩
                          case measure => simp [intOf]; omega
                        · have e3 : (((⟨y.toArray⟩ : ByteArray).extract 0 3).toList == [58, 58, 58]) = false := by
                            rw [ext_bytes]; simp [hpre]
                          have HPR := Lib.hid hpre
                          clear hpre
                          have hcat1 := fun W => run_string_add_sum (P := Tryz.prog) W ⟨y.toArray⟩ ⟨#[10]⟩ (by show _ + 1 ≤ _; omega)
                          have hcat2 := fun W => run_string_add_sum (P := Tryz.prog) W D ((⟨y.toArray⟩ : ByteArray) ++ ⟨#[10]⟩) (by rw [ByteArray.size_append]; show _ + (_ + 1) ≤ _; omega)
                          go_wp2
                          go_roundw
                          case rel =>
                            have hy6 := HY6.out
                            exact ⟨k + 1, c, Y ++ [y], _, by go_num, by omega, rfl, doc_grow HD.out y, by rw [doc_size]; omega, rfl, by rw [count_no Y y HPR.out]; exact HC.out, by omega, within_more HY.out (within_no HNY.out HPR.out), rfl⟩
                          case measure => simp [intOf]; omega
        · obtain rfl : k = xs.length := by omega
          go_wp2_with fail
          go_loopw [8, 13] (fun d i wr => ShutRel D c w3 d i wr) (fun _ i _ => c - (intOf i).toNat)
          case atStart => exact ⟨0, D, rfl, Nat.zero_le _, rfl, by simp [ends, joinL], by omega, rfl⟩
          case round =>
            obtain ⟨m, E, rfl, hm, rfl, hE, hEs, hwe⟩ := hrel
            have hwe := hwe.symm
            subst hwe
            have HE := Lib.hid hE
            clear hE
            by_cases hp2 : m < c
            · have hcat1 := fun W => run_string_add_sum (P := Tryz.prog) W E ⟨#[58, 58, 58, 10]⟩ (by show _ + 4 ≤ _; omega)
              go_wp2
              go_roundw
              case rel => exact ⟨m + 1, _, by go_num, by omega, rfl, shut_grow HE.out, by rw [ByteArray.size_append]; show _ + 4 ≤ _; omega, rfl⟩
              case measure => simp [intOf]; omega
            · obtain rfl : m = c := by omega
              have hcat1 := fun W => run_string_add_sum (P := Tryz.prog) W E ⟨#[58, 58, 58, 10]⟩ (by show _ + 4 ≤ _; omega)
              have hcat2 := fun W => run_string_add_sum (P := Tryz.prog) W (E ++ ⟨#[58, 58, 58, 10]⟩) a1 (by rw [ByteArray.size_append]; show _ + 4 + _ ≤ _; omega)
              have cv := veilD_any HS3.out (E ++ ⟨#[58, 58, 58, 10]⟩ ++ a1) (by rw [ByteArray.size_append, ByteArray.size_append]; show _ + 4 + _ ≤ _; omega)
              have hdoc : (E ++ (⟨#[58, 58, 58, 10]⟩ : ByteArray) ++ a1).data.toList = divsDoc Y a1.data.toList := by
                unfold divsDoc
                rw [← HC.out, joinL_append, joinL_append]
                show (E ++ (⟨#[58, 58, 58, 10]⟩ : ByteArray) ++ a1).data.toList = (divLine nRight ++ 10 :: joinL Y) ++ joinL (ends m) ++ joinL [divE] ++ a1.data.toList
                simp [HE.out, HD.out, headR, joinL, divE]
              have hveil : veilL (svD 1) (E ++ (⟨#[58, 58, 58, 10]⟩ : ByteArray) ++ a1).data.toList = joinL [divLine nRight, divE] ++ endL a1.data.toList := by
                rw [hdoc]
                exact divs_veil Y a1.data.toList HY.out HLt.out
              rw [hveil] at cv
              clear hdoc hveil
              go_wp2_with fail
              refine cv.mono ?_
              rintro e w4 ⟨rfl, b4⟩
              have HB4 := Lib.hid (HB3.out.then b4)
              clear b4 cv
              go_wp2_with fail
              refine (end7_any _ a1 (by omega)).mono ?_
              rintro e w5 ⟨⟨F, rfl, hF, hFs⟩, rfl⟩
              have hcat3 := fun W => run_string_add_sum (P := Tryz.prog) W ⟨#[58, 58, 58, 123, 114, 105, 103, 104, 116, 125, 10, 58, 58, 58, 10]⟩ F (by show 15 + _ ≤ _; omega)
              have HF := Lib.hid hF
              clear hF
              go_wp2
              go_ret
              refine ⟨?_, HB4.out⟩
              obtain ⟨f, rfl⟩ : ∃ f : Txt, F = ⟨f.toArray⟩ := ⟨F.data.toList, by simp⟩
              have hf : f = endL a1.data.toList := by simpa using HF.out
              have e : (joinL [divLine nRight, divE] ++ endL a1.data.toList == ((⟨#[58, 58, 58, 123, 114, 105, 103, 104, 116, 125, 10, 58, 58, 58, 10]⟩ : ByteArray) ++ ⟨f.toArray⟩).toList) = true := by
                rw [← hf, beq_iff_eq, ByteArray.toList_eq]
                simp [joinL, divLine, divE, divB, nRight]
              exact congrArg (fun x => Ending.returned (Value.bool x)) e

theorem veilDivs_walk (w : World) (h7 : W7 w) (A0 : Option Addr) (c0 : Nat) (z0 : List ByteArray) (r0 : RowOf w A0 c0 (z0.map Value.string)) (w0 : ∀ s ∈ z0, s.size ≤ maxLen) (a1 : ByteArray) (w1 : a1.size ≤ maxLen) :
    Calls Tryz.prog 9 #[.slice A0 z0.length c0, .string a1] w fun e w' => e = .returned (.bool true) ∧ Below w.heap.size w w' := by
  rw [strs_of] at r0
  have h := veilDivs_core w h7 A0 c0 _ r0 a1 w1
  simp only [List.length_map] at h
  exact h

end Go.Proofs.YtneiheifjgffaaaGreatDoor
