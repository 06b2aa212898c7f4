/- Texts joined: IoG. -/
import Derived.Test.YtfbaknkmpilllaaGreatDoorRIoF
namespace Go.Proofs.YtfbaknkmpilllaaGreatDoor
open Go.RowKit
set_option linter.unusedSimpArgs false
set_option linter.unusedVariables false
set_option maxRecDepth 100000
def lnP : List ByteArray → List Bool → List (List UInt8 × Nat)
  | [], _ => []
  | x :: xs, h => (x.data.toList, if h.headD false then 2 else 0) :: lnP xs h.tail
theorem lnP_len : ∀ (l : List ByteArray) (h : List Bool), (lnP l h).length = l.length
  | [], _ => rfl
  | x :: xs, h => by rw [lnP, List.length_cons, lnP_len xs, List.length_cons]
theorem lnP_at : ∀ (l : List ByteArray) (h : List Bool) (i : Nat) (hi : i < l.length) (hi2 : i < (lnP l h).length), (lnP l h)[i] = (l[i].data.toList, if h.getD i false then 2 else 0)
  | x :: xs, h, 0, _, _ => by cases h <;> rfl
  | x :: xs, h, i + 1, hi, hi2 => by
    have ih := lnP_at xs h.tail i (by simpa using hi) (by rw [lnP_len]; simpa using hi)
    show (lnP xs h.tail)[i]'_ = _
    rw [ih]
    cases h <;> rfl
def sepT (A : List (List UInt8 × Nat)) : List UInt8 := A.flatMap fun x => x.1 ++ (List.replicate x.2 32 ++ [10, 32, 32])
theorem sepT_snoc (A : List (List UInt8 × Nat)) (y : List UInt8 × Nat) : sepT (A ++ [y]) = sepT A ++ (y.1 ++ (List.replicate y.2 32 ++ [10, 32, 32])) := by
  unfold sepT; rw [List.flatMap_append]; simp
theorem sepT_lines : ∀ (A : List (List UInt8 × Nat)) (y : List UInt8 × Nat), flatP (linesP 2 (A ++ [y])) = sepT A ++ y.1
  | [], y => by simp [linesP, flatP, sepT]
  | [x], y => by
    show flatP (linesP 2 [x, y]) = _
    simp [linesP, flatP, sepT]
  | x :: x' :: A, y => by
    have ih := sepT_lines (x' :: A) y
    show flatP (linesP 2 (x :: x' :: (A ++ [y]))) = _
    rw [linesP, flatP_cons, flatP_cons]
    have e : flatP (linesP 2 (x' :: (A ++ [y]))) = sepT (x' :: A) ++ y.1 := ih
    rw [e]
    simp [sepT]
theorem take_last {α : Type} (l : List α) (n : Nat) (h : n + 1 = l.length) : l = l.take n ++ [l[n]] := by
  rw [← List.take_succ_eq_append_getElem (by omega), h, List.take_length]
def LnRel (z : List ByteArray) (hd : List Bool) (s i : Value) : Prop := ∃ (k : Nat) (u : ByteArray), i = .int .i64 k ∧ s = .string u ∧ k ≤ z.length ∧
  u.data.toList = (if k < z.length then sepT ((lnP z hd).take k) else flatP (linesP 2 (lnP z hd))) ∧ u.size ≤ 35 * k ∧ ∀ x ∈ z.take k, x.data.toList ≠ [] ∧ ∀ b ∈ x.data.toList, lowB b = true
theorem low_word2 {b : UInt8} (h : lowB b = true) : tkWord b = true ∧ tkBlank b = false := plB_word (by unfold plB; rw [h]; rfl)
set_option maxHeartbeats 8000000 in
theorem inlineLines_walk (w : World) (h7 : TkW w) (A0 : Option Addr) (c0 : Nat) (z0 : List ByteArray) (r0 : RowOf w A0 c0 (z0.map Value.string)) (w0 : ∀ s ∈ z0, s.size ≤ maxLen) (A1 : Option Addr) (c1 : Nat) (z1 : List Bool) (r1 : RowOf w A1 c1 (z1.map Value.bool)) :
    Calls Tryz.prog 12 #[.slice A0 z0.length c0, .slice A1 z1.length c1] w fun e w' => e = .returned (.bool true) ∧ Below w.heap.size w w' := by
  have CA := Lib.hid (alive15_any w h7)
  have H7 := Lib.hid h7
  have hle : z0.length ≤ c0 := by have := r0.1; simpa using this
  have hcap := r0.2.1
  have hle1 : z1.length ≤ c1 := by have := r1.1; simpa using this
  have hcap1 := r1.2.1
  unfold maxLen at hcap hcap1
  clear h7 w0
  by_cases hz : z0.length < 1 ∨ 12 < z0.length ∨ 12 < z1.length
  · have hcase : z0.length < 1 ∨ (1 ≤ z0.length ∧ 12 < z0.length) ∨ (1 ≤ z0.length ∧ z0.length ≤ 12 ∧ 12 < z1.length) := by omega
    clear hz
    rcases hcase with h1 | ⟨h1, h2⟩ | ⟨h1, h2, h3⟩
    · have h0 : z0.length = 0 := by omega
      go_enter Tryz.func12, Tryz.ntmps12
      go_wp2_with fail
      refine CA.out.mono ?_
      rintro e w1 ⟨rfl, b1⟩
      go_wp2
      go_ret
      exact ⟨rfl, b1⟩
    · go_enter Tryz.func12, Tryz.ntmps12
      go_wp2_with fail
      refine CA.out.mono ?_
      rintro e w1 ⟨rfl, b1⟩
      go_wp2
      go_ret
      exact ⟨rfl, b1⟩
    · go_enter Tryz.func12, Tryz.ntmps12
      go_wp2_with fail
      refine CA.out.mono ?_
      rintro e w1 ⟨rfl, b1⟩
      go_wp2
      go_ret
      exact ⟨rfl, b1⟩
  · have hz0 : z0.length ≤ 12 := by omega
    have hz1 : 1 ≤ z0.length := by omega
    have hz2 : z1.length ≤ 12 := by omega
    clear hz
    go_enter Tryz.func12, Tryz.ntmps12
    go_wp2_with fail
    refine CA.out.mono ?_
    rintro e w1 ⟨rfl, b1⟩
    have HB1 := Lib.hid b1
    have HR := Lib.hid (r0.below b1)
    have HR1 := Lib.hid (r1.below b1)
    clear b1 r0 r1
    go_wp2_with fail
    go_loop [5, 32] (fun s i => LnRel z0 z1 s i) (fun _ i => z0.length - (intOf i).toNat)
    case atStart => exact ⟨0, ⟨#[]⟩, rfl, rfl, Nat.zero_le _, by rw [if_pos (by omega)]; rfl, Nat.zero_le _, by simp⟩
    case round =>
      obtain ⟨k, u, rfl, rfl, hk, hu, hus, hall⟩ := hrel
      by_cases hlt : k < z0.length
      · obtain ⟨b, off, rfl, hb, hc⟩ := HR.out.at (by intro e; rw [List.map_eq_nil_iff.1 e] at hlt; simp at hlt)
        have hck := hc k (by simpa using hlt)
        rw [List.getElem_map] at hck
        rw [if_pos hlt] at hu
        have hkl : k < (lnP z0 z1).length := by rw [lnP_len]; exact hlt
        have hat := lnP_at z0 z1 k hlt hkl
        have hts : sepT ((lnP z0 z1).take (k + 1)) = sepT ((lnP z0 z1).take k) ++ (z0[k].data.toList ++ (List.replicate (if z1.getD k false then 2 else 0) 32 ++ [10, 32, 32])) := by
          rw [List.take_succ_eq_append_getElem hkl, sepT_snoc, hat]
        have hend : k + 1 = z0.length → flatP (linesP 2 (lnP z0 z1)) = sepT ((lnP z0 z1).take k) ++ z0[k].data.toList := fun h => by
          have e := take_last (lnP z0 z1) k (by rw [lnP_len]; exact h)
          rw [hat] at e
          have := sepT_lines ((lnP z0 z1).take k) (z0[k].data.toList, if z1.getD k false then 2 else 0)
          rw [← e] at this
          exact this
        have hmem : ∀ (hx : z0[k].data.toList ≠ [] ∧ ∀ b ∈ z0[k].data.toList, lowB b = true), ∀ x ∈ z0.take (k + 1), x.data.toList ≠ [] ∧ ∀ b ∈ x.data.toList, lowB b = true := by
          intro hx x hm
          rw [List.take_succ_eq_append_getElem hlt] at hm
          rcases List.mem_append.1 hm with h | h
          · exact hall x h
          · rw [List.mem_singleton.1 h]; exact hx
        rw [← hu] at hts hend
        have HJ := Lib.hid (And.intro hts (And.intro hend hmem))
        have hbz : k < z1.length → ∃ (b1 : Nat) (o1 : Nat), A1 = some ⟨b1, o1, none⟩ ∧ b1 < w1.heap.size ∧ w1.cell? ⟨b1, o1 + k, none⟩ = some (.bool (z1.getD k false)) := fun h => by
          obtain ⟨b1, o1, e, hb1, hc1⟩ := HR1.out.at (by intro e; rw [List.map_eq_nil_iff.1 e] at h; simp at h)
          have := hc1 k (by simpa using h)
          rw [List.getElem_map] at this
          refine ⟨b1, o1, e, hb1, ?_⟩
          rw [this]; simp [List.getD, List.getElem?_eq_getElem h]
        have hno : ¬ k < z1.length → z1.getD k false = false := fun h => by
          simp [List.getD, List.getElem?_eq_none (by omega : z1.length ≤ k)]
        have HBZ := Lib.hid (And.intro hbz hno)
        clear hc hts hend hu hall hmem hat hkl hbz hno
        generalize hx0 : z0[k] = x at *
        clear hx0
        by_cases hx1 : x.size = 0
        · obtain rfl := tlEmpty_of x hx1
          clear hx1
          go_wp2
          go_ret
          exact ⟨rfl, HB1.out⟩
        · have hx2 : 0 < x.size := by omega
          have e1 := toList_ne hx2
          have e2 := toList_empty hx2
          by_cases hx3 : 30 < x.size
          · clear hx1
            go_wp2
            go_ret
            exact ⟨rfl, HB1.out⟩
          · have hx4 : x.size ≤ 30 := by omega
            clear hx1 hx3
            go_wp2_with fail
            clear e1 e2
            go_loop [8] (fun v => TlLowRel x v) (fun v => x.size - (intOf v).toNat)
            case atStart => exact ⟨0, rfl, Nat.zero_le _, by simp⟩
            case round =>
              obtain ⟨j, rfl, hj, hal⟩ := hrel
              by_cases hjl : j < x.size
              · cases hb' : lowB x[j] with
                | true =>
                  have HA := Lib.hid (take_mem x j hjl lowB hal hb')
                  obtain ⟨g1, g2⟩ := low_yes hb'
                  clear hb' hal
                  go_wp2
                  all_goals first
                    | exact ⟨⟨j + 1, by go_num, by omega, HA.out⟩, by simp only [intOf]; omega⟩
                    | (go_round
                       case rel => exact ⟨j + 1, by go_num, by omega, HA.out⟩
                       case measure => simp [intOf]; omega)
                | false =>
                  have g := low_no hb'
                  clear hb' hal
                  rcases g with g | g
                  · go_wp2
                    go_ret
                    exact ⟨rfl, HB1.out⟩
                  · have g1 : decide ((x[j].toNat : Int) < 97) = false := by simp; omega
                    have g2 : (97 : Int) ≤ x[j].toNat := by omega
                    go_wp2
                    go_ret
                    exact ⟨rfl, HB1.out⟩
              · obtain rfl : j = x.size := by omega
                rw [List.take_of_length_le (by rw [size_len']; exact Nat.le_refl _)] at hal
                have hne : x.data.toList ≠ [] := by intro e; have := size_len' x; rw [e] at this; simp at this; omega
                have HX := Lib.hid (HJ.out.2.2 ⟨hne, hal⟩)
                clear hal hne
                have r1 := fun W => run_string_add_sum (P := Tryz.prog) W u x (by omega)
                by_cases hkl : k + 1 < z0.length
                · have hw1 : IntKind.i64.wrap ((z0.length : Int) - 1) = (z0.length : Int) - 1 := by simp [IntKind.wrap_i64, wrap64]; omega
                  have hts := HJ.out.1
                  by_cases hh : k < z1.length
                  · obtain ⟨b1, o1, rfl, hb1, hc1⟩ := HBZ.out.1 hh
                    cases hq : z1.getD k false with
                    | true =>
                      rw [hq] at hts hc1
                      have r2 := fun W => run_string_add_sum (P := Tryz.prog) W (u ++ x) (⟨#[32, 32]⟩ : ByteArray) (by rw [ByteArray.size_append]; show u.size + x.size + 2 ≤ _; omega)
                      have r3 := fun W => run_string_add_sum (P := Tryz.prog) W ((u ++ x) ++ (⟨#[32, 32]⟩ : ByteArray)) (⟨#[10, 32, 32]⟩ : ByteArray) (by rw [ByteArray.size_append, ByteArray.size_append]; show u.size + x.size + 2 + 3 ≤ _; omega)
                      have hT : (((u ++ x) ++ (⟨#[32, 32]⟩ : ByteArray)) ++ (⟨#[10, 32, 32]⟩ : ByteArray)).data.toList = sepT ((lnP z0 z1).take (k + 1)) := by rw [hts]; simp [List.replicate]
                      have hTs : (((u ++ x) ++ (⟨#[32, 32]⟩ : ByteArray)) ++ (⟨#[10, 32, 32]⟩ : ByteArray)).size ≤ 35 * (k + 1) := by rw [ByteArray.size_append, ByteArray.size_append, ByteArray.size_append]; show u.size + x.size + 2 + 3 ≤ _; omega
                      generalize ((u ++ x) ++ (⟨#[32, 32]⟩ : ByteArray)) ++ (⟨#[10, 32, 32]⟩ : ByteArray) = T3 at *
                      generalize (u ++ x) ++ (⟨#[32, 32]⟩ : ByteArray) = T2 at *
                      generalize u ++ x = T1 at *
                      have HT := Lib.hid hT
                      have HTS := Lib.hid hTs
                      clear hT hTs hts hus hq
                      go_wp2
                      all_goals first
                        | exact ⟨⟨k + 1, T3, by go_num, rfl, by omega, by rw [if_pos hkl]; exact HT.out, HTS.out, HX.out⟩, by simp only [intOf]; omega⟩
                        | (go_round
                           case rel => exact ⟨k + 1, T3, by go_num, rfl, by omega, by rw [if_pos hkl]; exact HT.out, HTS.out, HX.out⟩
                           case measure => simp [intOf]; omega)
                    | false =>
                      rw [hq] at hts hc1
                      have r3 := fun W => run_string_add_sum (P := Tryz.prog) W (u ++ x) (⟨#[10, 32, 32]⟩ : ByteArray) (by rw [ByteArray.size_append]; show u.size + x.size + 3 ≤ _; omega)
                      have hT : ((u ++ x) ++ (⟨#[10, 32, 32]⟩ : ByteArray)).data.toList = sepT ((lnP z0 z1).take (k + 1)) := by rw [hts]; simp
                      have hTs : ((u ++ x) ++ (⟨#[10, 32, 32]⟩ : ByteArray)).size ≤ 35 * (k + 1) := by rw [ByteArray.size_append, ByteArray.size_append]; show u.size + x.size + 3 ≤ _; omega
                      generalize (u ++ x) ++ (⟨#[10, 32, 32]⟩ : ByteArray) = T3 at *
                      generalize u ++ x = T1 at *
                      have HT := Lib.hid hT
                      have HTS := Lib.hid hTs
                      clear hT hTs hts hus hq
                      go_wp2
                      all_goals first
                        | exact ⟨⟨k + 1, T3, by go_num, rfl, by omega, by rw [if_pos hkl]; exact HT.out, HTS.out, HX.out⟩, by simp only [intOf]; omega⟩
                        | (go_round
                           case rel => exact ⟨k + 1, T3, by go_num, rfl, by omega, by rw [if_pos hkl]; exact HT.out, HTS.out, HX.out⟩
                           case measure => simp [intOf]; omega)
                  · rw [HBZ.out.2 hh] at hts
                    have r3 := fun W => run_string_add_sum (P := Tryz.prog) W (u ++ x) (⟨#[10, 32, 32]⟩ : ByteArray) (by rw [ByteArray.size_append]; show u.size + x.size + 3 ≤ _; omega)
                    have hT : ((u ++ x) ++ (⟨#[10, 32, 32]⟩ : ByteArray)).data.toList = sepT ((lnP z0 z1).take (k + 1)) := by rw [hts]; simp
                    have hTs : ((u ++ x) ++ (⟨#[10, 32, 32]⟩ : ByteArray)).size ≤ 35 * (k + 1) := by rw [ByteArray.size_append, ByteArray.size_append]; show u.size + x.size + 3 ≤ _; omega
                    generalize (u ++ x) ++ (⟨#[10, 32, 32]⟩ : ByteArray) = T3 at *
                    generalize u ++ x = T1 at *
                    have HT := Lib.hid hT
                    have HTS := Lib.hid hTs
                    clear hT hTs hts hus
                    go_wp2
                    all_goals first
                      | exact ⟨⟨k + 1, T3, by go_num, rfl, by omega, by rw [if_pos hkl]; exact HT.out, HTS.out, HX.out⟩, by simp only [intOf]; omega⟩
                      | (go_round
                         case rel => exact ⟨k + 1, T3, by go_num, rfl, by omega, by rw [if_pos hkl]; exact HT.out, HTS.out, HX.out⟩
                         case measure => simp [intOf]; omega)
                · have hke : k + 1 = z0.length := by omega
                  have hT : (u ++ x).data.toList = flatP (linesP 2 (lnP z0 z1)) := by rw [HJ.out.2.1 hke]; simp
                  have hTs : (u ++ x).size ≤ 35 * (k + 1) := by rw [ByteArray.size_append]; omega
                  generalize u ++ x = T1 at *
                  have HT := Lib.hid hT
                  have HTS := Lib.hid hTs
                  have hkg : (z0.length : Int) - 1 ≤ k := by omega
                  have HKE := Lib.hid hke
                  clear hT hTs hus hkl hke
                  go_wp2
                  all_goals first
                    | exact ⟨⟨k + 1, T1, by go_num, rfl, by omega, by rw [if_neg (by have := HKE.out; omega)]; exact HT.out, HTS.out, HX.out⟩, by simp only [intOf]; omega⟩
                    | (go_round
                       case rel => exact ⟨k + 1, T1, by go_num, rfl, by omega, by rw [if_neg (by have := HKE.out; omega)]; exact HT.out, HTS.out, HX.out⟩
                       case measure => simp [intOf]; omega)
      · obtain rfl : k = z0.length := by omega
        rw [List.take_length] at hall
        rw [if_neg (by omega)] at hu
        have hev := linesN_even (lnP z0 z1)
        have hod := linesN_odd (lnP z0 z1)
        have hll := lnP_len z0 z1
        have hlen := linesN_len (lnP z0 z1) (by intro e; rw [e] at hll; simp at hll; omega)
        rw [hll] at hlen
        have hat := lnP_at z0 z1
        have cr := raw_any u w1 (H7.out.below HB1.out) (by omega)
        rw [hu, rawI, lines_plain rawE [] 2 (lnP z0 z1) (by
          intro x hx
          obtain ⟨i, hi, rfl⟩ := List.mem_iff_getElem.1 hx
          have hi' : i < z0.length := by rw [← hll]; exact hi
          rw [hat i hi' hi]
          exact ⟨(hall _ (List.getElem_mem hi')).1, fun b hb => low_word2 ((hall _ (List.getElem_mem hi')).2 b hb)⟩)] at cr
        have hbz : ∀ k, k < z1.length → ∃ (b1 : Nat) (o1 : Nat), A1 = some ⟨b1, o1, none⟩ ∧ ∀ W, Below w1.heap.size w1 W → W.cell? ⟨b1, o1 + k, none⟩ = some (.bool (z1.getD k false)) := fun k h => by
          obtain ⟨b1, o1, e, hb1, hc1⟩ := HR1.out.at (by intro e; rw [List.map_eq_nil_iff.1 e] at h; simp at h)
          have := hc1 k (by simpa using h)
          rw [List.getElem_map] at this
          refine ⟨b1, o1, e, fun W hW => ?_⟩
          rw [(hW.cell (p := ⟨b1, o1 + k, none⟩) hb1), this]
          simp [List.getD, List.getElem?_eq_getElem h]
        have hno : ∀ k, ¬ k < z1.length → z1.getD k false = false := fun k h => by
          simp [List.getD, List.getElem?_eq_none (by omega : z1.length ≤ k)]
        generalize hX : linesN (lnP z0 z1) = X at *
        have hne : ((X.length : Int) != 2 * (z0.length : Int) - 1) = false := by simp; omega
        have HF := Lib.hid (And.intro hev (And.intro hod (And.intro hat (And.intro hll hlen))))
        have HBZ := Lib.hid (And.intro hbz hno)
        have CR := Lib.hid cr
        clear cr hall hu hus hev hod hat hll hlen hX hbz hno
        go_wp2_with fail
        refine CR.out.mono ?_
        rintro e w2 ⟨⟨v, rfl, hv⟩, b2⟩
        have hxl := hv.len_le
        unfold maxLen at hxl
        obtain ⟨A2, k2, rfl, hG, _⟩ := hv
        have HB12 := Lib.hid b2
        have HB2 := Lib.hid (HB1.out.then b2)
        have HR2 := Lib.hid (HR.out.below b2)
        clear b2
        go_wp2_with fail
        go_loopw [10] (fun i wr => ∃ j : Nat, i = .int .i64 j ∧ j + 1 ≤ z0.length ∧ Below w2.heap.size w2 wr) (fun i _ => z0.length - (intOf i).toNat)
        case atStart => exact ⟨0, rfl, by omega, Below.refl _ _⟩
        case round =>
          obtain ⟨i, rfl, hj, hbw⟩ := hrel
          by_cases hp : i + 1 < z0.length
          · obtain ⟨hev, hod, hat, hll, hlen⟩ := HF.out
            have hi : i < z0.length := by omega
            have p0 : 2 * i < X.length := by omega
            have p1 : 2 * i + 1 < X.length := by omega
            obtain ⟨bX, oX, e, hbX, -, -, d2, -, -⟩ := InlsAt.cells5 (EltsAt.below hG hbw) p0
            subst e
            obtain ⟨bX', oX', e', -, e0, -, -, -, -⟩ := InlsAt.cells5 (EltsAt.below hG hbw) p1
            have e'' := Option.some.inj e'
            injection e'' with q1 q2
            subst q1 q2
            have h1 := hev i (by rw [hll]; exact hi) p0
            have h2 := hod i (by rw [hll]; exact hi) p1
            rw [hat i hi (by rw [hll]; exact hi)] at h1 h2
            rw [h1] at d2
            rw [h2] at e0
            simp only [wordsI, Lib.mk_data] at d2 e0
            have HRW := Lib.hid (HR2.out.below hbw)
            obtain ⟨b, off, rfl, hb, hc⟩ := HRW.out.at (by intro e; rw [List.map_eq_nil_iff.1 e] at hi; simp at hi)
            have hck := hc i (by simpa using hi)
            rw [List.getElem_map] at hck
            have HP := Lib.hid hp
            have HW := Lib.hid hbw
            have hm : 2 * (i : Int) = ((2 * i : Nat) : Int) := by omega
            have hm1 : ((2 * i : Nat) : Int) + 1 = ((2 * i + 1 : Nat) : Int) := by omega
            have HBW := Lib.hid (HB12.out.trans (hbw.mono HB12.out.size))
            clear h1 h2 hc e'
            generalize z0[i] = x at *
            generalize hj1 : 2 * i + 1 = j1 at *
            generalize hj0 : 2 * i = j0 at *
            by_cases hh : i < z1.length
            · obtain ⟨b1, o1, rfl, hc1'⟩ := HBZ.out.1 i hh
              have hc1 := hc1' wr HBW.out
              clear hc1'
              cases hq : z1.getD i false with
              | true =>
                rw [hq] at hc1 e0
                simp only [if_true, show (if 2 ≤ 2 then (8 : Int) else 7) = 8 from rfl] at e0
                clear hev hod hat hll hlen hbw hq
                go_wp2_with fail
                go_quiet (fail)
                go_wp2
                all_goals first
                  | exact ⟨⟨i + 1, by go_num, by have := HP.out; omega, below_drewN' HW.out nq⟩, by have := HP.out; simp only [intOf]; omega⟩
                  | (go_roundw
                     case rel => exact ⟨i + 1, by go_num, by have := HP.out; omega, below_drewN' HW.out nq⟩
                     case measure => have := HP.out; simp [intOf]; omega)
              | false =>
                rw [hq] at hc1 e0
                simp only [Bool.false_eq_true, if_false, show (if 2 ≤ 0 then (8 : Int) else 7) = 7 from rfl] at e0
                clear hev hod hat hll hlen hbw hq
                go_wp2_with fail
                go_quiet (fail)
                go_wp2
                all_goals first
                  | exact ⟨⟨i + 1, by go_num, by have := HP.out; omega, below_drewN' HW.out nq⟩, by have := HP.out; simp only [intOf]; omega⟩
                  | (go_roundw
                     case rel => exact ⟨i + 1, by go_num, by have := HP.out; omega, below_drewN' HW.out nq⟩
                     case measure => have := HP.out; simp [intOf]; omega)
            · have hq := HBZ.out.2 i hh
              rw [hq] at e0
              simp only [Bool.false_eq_true, if_false, show (if 2 ≤ 0 then (8 : Int) else 7) = 7 from rfl] at e0
              clear hev hod hat hll hlen hbw hq
              go_wp2_with fail
              go_quiet (fail)
              go_wp2
              all_goals first
                | exact ⟨⟨i + 1, by go_num, by have := HP.out; omega, below_drewN' HW.out nq⟩, by have := HP.out; simp only [intOf]; omega⟩
                | (go_roundw
                   case rel => exact ⟨i + 1, by go_num, by have := HP.out; omega, below_drewN' HW.out nq⟩
                   case measure => have := HP.out; simp [intOf]; omega)
          · have hie : i + 1 = z0.length := by omega
            have hkg : (z0.length : Int) - 1 ≤ i := by omega
            have HW := Lib.hid (HB2.out.trans (hbw.mono HB2.out.size))
            clear hbw hG hie hp
            go_wp2
            go_ret
            exact ⟨rfl, HW.out⟩
end Go.Proofs.YtfbaknkmpilllaaGreatDoor
