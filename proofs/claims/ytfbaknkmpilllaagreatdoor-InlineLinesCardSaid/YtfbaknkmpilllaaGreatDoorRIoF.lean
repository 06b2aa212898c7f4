/- Texts joined: IoF. -/
import Derived.Test.YtfbaknkmpilllaaGreatDoorRIoD
namespace Go.Proofs.YtfbaknkmpilllaaGreatDoor
open Go.RowKit
set_option linter.unusedSimpArgs false
set_option linter.unusedVariables false
set_option maxRecDepth 100000
def plB (b : UInt8) : Bool := lowB b || b == 46
theorem plB_word {b : UInt8} (h : plB b = true) : tkWord b = true ∧ tkBlank b = false := by
  unfold plB at h
  rw [Bool.or_eq_true] at h
  rcases h with h | h
  · refine ⟨word_low b h, ?_⟩
    cases hb : tkBlank b with
    | false => rfl
    | true =>
      have := low_yes h
      unfold tkBlank tkBlankI at hb
      simp at hb
      omega
  · obtain rfl : b = 46 := by simpa using h
    decide
theorem plB_yes {b : UInt8} (h : plB b = true) : (97 ≤ (b.toNat : Int) ∧ (b.toNat : Int) ≤ 122) ∨ ((b.toNat : Int) < 97 ∧ ((b.toNat : Int) == 46) = true) := by
  unfold plB at h
  rw [Bool.or_eq_true] at h
  rcases h with h | h
  · exact .inl (low_yes h)
  · obtain rfl : b = 46 := by simpa using h
    exact .inr (by decide)
theorem plB_no {b : UInt8} (h : plB b = false) : ((b.toNat : Int) == 46) = false ∧ ((b.toNat : Int) < 97 ∨ (97 ≤ (b.toNat : Int) ∧ 122 < (b.toNat : Int))) := by
  unfold plB at h
  rw [Bool.or_eq_false_iff] at h
  have e := eq_byte b 46
  rw [h.2] at e
  have := low_no h.1
  exact ⟨e, by omega⟩
def jn : List (List UInt8) → List UInt8
  | [] => []
  | x :: xs => x ++ xs.flatMap fun y => 10 :: y
theorem jn_snoc (l : List (List UInt8)) (y : List UInt8) : jn (l ++ [y]) = (if l = [] then [] else jn l ++ [10]) ++ y := by
  cases l with
  | nil => simp [jn]
  | cons x xs => simp [jn]
theorem jn_lines : ∀ l : List (List UInt8), flatP (linesP 0 (l.map fun x => (x, 0))) = jn l
  | [] => rfl
  | [x] => by simp [linesP, flatP, jn]
  | x :: y :: l => by
    have ih := jn_lines (y :: l)
    simp only [List.map_cons] at ih ⊢
    rw [linesP, flatP_cons, flatP_cons, ih]
    simp [jn]
theorem linesN_len : ∀ l : List (List UInt8 × Nat), l ≠ [] → (linesN l).length = 2 * l.length - 1
  | [], h => absurd rfl h
  | [x], _ => rfl
  | x :: y :: l, _ => by
    have ih := linesN_len (y :: l) (by simp)
    simp only [List.length_cons] at ih ⊢
    rw [linesN, List.length_cons, List.length_cons, ih]
    omega
theorem linesN_two (x y : List UInt8 × Nat) (l : List (List UInt8 × Nat)) : (linesN (x :: y :: l)).length = (linesN (y :: l)).length + 2 := rfl
theorem linesN_even : ∀ (l : List (List UInt8 × Nat)) (i : Nat) (h : i < l.length) (h2 : 2 * i < (linesN l).length), (linesN l)[2 * i] = wordsI 0 l[i].1
  | [x], 0, _, _ => rfl
  | x :: y :: l, 0, _, _ => rfl
  | x :: y :: l, i + 1, h, h2 => linesN_even (y :: l) i (by simpa using h) (by have := linesN_two x y l; omega)
theorem linesN_odd : ∀ (l : List (List UInt8 × Nat)) (i : Nat) (h : i < l.length) (h2 : 2 * i + 1 < (linesN l).length), (linesN l)[2 * i + 1] = ⟨if 2 ≤ l[i].2 then 8 else 7, 0, [], [], []⟩
  | [x], i, _, h2 => by simp [linesN] at h2
  | x :: y :: l, 0, _, _ => rfl
  | x :: y :: l, i + 1, h, h2 => linesN_odd (y :: l) i (by simpa using h) (by have := linesN_two x y l; omega)
def toLs (z : List ByteArray) : List (List UInt8) := z.map fun x => x.data.toList
def PlRel (z : List ByteArray) (s i : Value) : Prop := ∃ (k : Nat) (u : ByteArray), i = .int .i64 k ∧ s = .string u ∧ k ≤ z.length ∧ u.data.toList = jn (toLs (z.take k)) ∧ u.size ≤ 61 * k ∧ ∀ x ∈ z.take k, x.data.toList ≠ [] ∧ ∀ b ∈ x.data.toList, plB b = true
def PlByte (s : ByteArray) (v : Value) : Prop := ∃ k : Nat, v = .int .i64 k ∧ k ≤ s.size ∧ ∀ b ∈ s.data.toList.take k, plB b = true
set_option maxHeartbeats 8000000 in
theorem inlinePlain_walk (w : World) (h7 : TkW w) (A0 : Option Addr) (c0 : Nat) (z0 : List ByteArray) (r0 : RowOf w A0 c0 (z0.map Value.string)) (w0 : ∀ s ∈ z0, s.size ≤ maxLen) :
    Calls Tryz.prog 4 #[.slice A0 z0.length c0] w fun e w' => e = .returned (.bool true) ∧ Below w.heap.size w w' := by
  have CA := Lib.hid (alive15_any w h7)
  have H7 := Lib.hid h7
  have hle : z0.length ≤ c0 := by have := r0.1; simpa using this
  have hcap := r0.2.1
  unfold maxLen at hcap
  clear h7 w0
  by_cases hz : 10 < z0.length
  · go_enter Tryz.func4, Tryz.ntmps4
    go_wp2_with fail
    refine CA.out.mono ?_
    rintro e w1 ⟨rfl, b1⟩
    go_wp2
    go_ret
    exact ⟨rfl, b1⟩
  · have hz0 : z0.length ≤ 10 := by omega
    clear hz
    go_enter Tryz.func4, Tryz.ntmps4
    go_wp2_with fail
    refine CA.out.mono ?_
    rintro e w1 ⟨rfl, b1⟩
    have HB1 := Lib.hid b1
    have HR := Lib.hid (r0.below b1)
    clear b1 r0
    go_wp2_with fail
    go_loop [3, 20] (fun s i => PlRel z0 s i) (fun _ i => z0.length - (intOf i).toNat)
    case atStart => exact ⟨0, ⟨#[]⟩, rfl, rfl, Nat.zero_le _, rfl, Nat.zero_le _, by simp⟩
    case round =>
      obtain ⟨k, u, rfl, rfl, hk, hu, hus, hall⟩ := hrel
      by_cases hlt : k < z0.length
      · obtain ⟨b, off, rfl, hb, hc⟩ := HR.out.at (by intro e; rw [List.map_eq_nil_iff.1 e] at hlt; simp at hlt)
        have hck := hc k (by simpa using hlt)
        rw [List.getElem_map] at hck
        have hts : toLs (z0.take (k + 1)) = toLs (z0.take k) ++ [z0[k].data.toList] := by
          rw [List.take_succ_eq_append_getElem hlt]; unfold toLs; rw [List.map_append]; rfl
        have hjn := jn_snoc (toLs (z0.take k)) z0[k].data.toList
        have hnil : (toLs (z0.take k) = []) ↔ k = 0 := by
          unfold toLs
          rw [List.map_eq_nil_iff, List.take_eq_nil_iff]
          constructor
          · rintro (h | h)
            · exact h
            · rw [h] at hlt; simp at hlt
          · exact .inl
        rw [← hts] at hjn
        have hmem : ∀ (hx : z0[k].data.toList ≠ [] ∧ ∀ b ∈ z0[k].data.toList, plB b = true), ∀ x ∈ z0.take (k + 1), x.data.toList ≠ [] ∧ ∀ b ∈ x.data.toList, plB b = true := by
          intro hx x hm
          rw [List.take_succ_eq_append_getElem hlt] at hm
          rcases List.mem_append.1 hm with h | h
          · exact hall x h
          · rw [List.mem_singleton.1 h]; exact hx
        have HJ := Lib.hid (And.intro hjn (And.intro hnil (And.intro hu hmem)))
        clear hc hts hjn hnil hu hall hmem
        generalize hx0 : z0[k] = x at *
        clear hx0
        by_cases hx1 : x.size = 0
        · obtain rfl := tlEmpty_of x hx1
          clear hx1
          go_wp2
          go_ret
          exact ⟨rfl, HB1.out⟩
        · have hx2 : 0 < x.size := by omega
          have e1 := toList_ne hx2
          have e2 := toList_empty hx2
          by_cases hx3 : 60 < x.size
          · clear hx1
            go_wp2
            go_ret
            exact ⟨rfl, HB1.out⟩
          · have hx4 : x.size ≤ 60 := by omega
            clear hx1 hx3
            go_wp2_with fail
            clear e1 e2
            go_loop [6] (fun v => PlByte x v) (fun v => x.size - (intOf v).toNat)
            case atStart => exact ⟨0, rfl, Nat.zero_le _, by simp⟩
            case round =>
              obtain ⟨j, rfl, hj, hal⟩ := hrel
              by_cases hjl : j < x.size
              · cases hb' : plB x[j] with
                | true =>
                  have HA := Lib.hid (take_mem x j hjl plB hal hb')
                  have g := plB_yes hb'
                  clear hb' hal
                  rcases g with ⟨g1, g2⟩ | ⟨g1, g2⟩
                  · go_wp2
                    all_goals first
                      | exact ⟨⟨j + 1, by go_num, by omega, HA.out⟩, by simp only [intOf]; omega⟩
                      | (go_round
                         case rel => exact ⟨j + 1, by go_num, by omega, HA.out⟩
                         case measure => simp [intOf]; omega)
                  · go_wp2
                    all_goals first
                      | exact ⟨⟨j + 1, by go_num, by omega, HA.out⟩, by simp only [intOf]; omega⟩
                      | (go_round
                         case rel => exact ⟨j + 1, by go_num, by omega, HA.out⟩
                         case measure => simp [intOf]; omega)
                | false =>
                  obtain ⟨g0, g⟩ := plB_no hb'
                  clear hb' hal
                  rcases g with g | ⟨g, g'⟩
                  · have q1 : decide ((97 : Int) ≤ x[j].toNat) = false := by simp; omega
                    go_wp2
                    go_ret
                    exact ⟨rfl, HB1.out⟩
                  · have q1 : decide ((97 : Int) ≤ x[j].toNat) = true := by simp; omega
                    have q2 : decide ((x[j].toNat : Int) ≤ 122) = false := by simp; omega
                    have q3 : ¬ (x[j].toNat : Int) ≤ 122 := by omega
                    clear g'
                    go_wp2
                    go_ret
                    exact ⟨rfl, HB1.out⟩
              · obtain rfl : j = x.size := by omega
                rw [List.take_of_length_le (by rw [size_len']; exact Nat.le_refl _)] at hal
                have hne : x.data.toList ≠ [] := by intro e; have := size_len' x; rw [e] at this; simp at this; omega
                have HX := Lib.hid (HJ.out.2.2.2 ⟨hne, hal⟩)
                clear hal hne
                by_cases hk0 : k = 0
                · subst hk0
                  have hjn := HJ.out.1
                  rw [if_pos (HJ.out.2.1.2 rfl)] at hjn
                  have hu0 : u.size = 0 := by omega
                  obtain rfl := tlEmpty_of u hu0
                  have r2 := fun W => run_string_add_sum (P := Tryz.prog) W (⟨#[]⟩ : ByteArray) x (by show 0 + x.size ≤ _; omega)
                  have hT : ((⟨#[]⟩ : ByteArray) ++ x).data.toList = jn (toLs (z0.take (0 + 1))) := by rw [hjn]; simp
                  have hTs : ((⟨#[]⟩ : ByteArray) ++ x).size ≤ 61 * (0 + 1) := by rw [ByteArray.size_append]; show 0 + x.size ≤ _; omega
                  generalize (⟨#[]⟩ : ByteArray) ++ x = T2 at *
                  have HT := Lib.hid hT
                  have HTS := Lib.hid hTs
                  clear hT hTs hjn hu0 hus
                  go_wp2
                  all_goals first
                    | exact ⟨⟨0 + 1, T2, by go_num, rfl, by omega, HT.out, HTS.out, HX.out⟩, by simp only [intOf]; omega⟩
                    | (go_round
                       case rel => exact ⟨0 + 1, T2, by go_num, rfl, by omega, HT.out, HTS.out, HX.out⟩
                       case measure => simp [intOf]; omega)
                · have hjn := HJ.out.1
                  rw [if_neg (fun e => hk0 (HJ.out.2.1.1 e)), ← HJ.out.2.2.1] at hjn
                  have r1 := fun W => run_string_add_sum (P := Tryz.prog) W u (⟨#[10]⟩ : ByteArray) (by show u.size + 1 ≤ _; omega)
                  have r2 := fun W => run_string_add_sum (P := Tryz.prog) W (u ++ (⟨#[10]⟩ : ByteArray)) x (by rw [ByteArray.size_append]; show u.size + 1 + x.size ≤ _; omega)
                  have hT : ((u ++ (⟨#[10]⟩ : ByteArray)) ++ x).data.toList = jn (toLs (z0.take (k + 1))) := by rw [hjn]; simp
                  have hTs : ((u ++ (⟨#[10]⟩ : ByteArray)) ++ x).size ≤ 61 * (k + 1) := by rw [ByteArray.size_append, ByteArray.size_append]; show u.size + 1 + x.size ≤ _; omega
                  generalize (u ++ (⟨#[10]⟩ : ByteArray)) ++ x = T2 at *
                  generalize u ++ (⟨#[10]⟩ : ByteArray) = T1 at *
                  have HT := Lib.hid hT
                  have HTS := Lib.hid hTs
                  have hk1 : 0 < k := by omega
                  clear hT hTs hjn hus hk0
                  go_wp2
                  all_goals first
                    | exact ⟨⟨k + 1, T2, by go_num, rfl, by omega, HT.out, HTS.out, HX.out⟩, by simp only [intOf]; omega⟩
                    | (go_round
                       case rel => exact ⟨k + 1, T2, by go_num, rfl, by omega, HT.out, HTS.out, HX.out⟩
                       case measure => simp [intOf]; omega)
      · obtain rfl : k = z0.length := by omega
        rw [List.take_length] at hall hu
        have cr := raw_any u w1 (H7.out.below HB1.out) (by omega)
        rw [hu, ← jn_lines, rawI, lines_plain rawE [] 0 ((toLs z0).map fun x => (x, 0)) (by
          intro x hx
          obtain ⟨y, hy, rfl⟩ := List.mem_map.1 hx
          obtain ⟨v, hv, rfl⟩ := List.mem_map.1 hy
          exact ⟨(hall v hv).1, fun b hb => plB_word ((hall v hv).2 b hb)⟩)] at cr
        have CR := Lib.hid cr
        clear cr hall hu hus
        by_cases hn : z0.length = 0
        · obtain rfl := List.length_eq_zero_iff.1 hn
          clear hn
          go_wp2_with fail
          refine CR.out.mono ?_
          rintro e w2 ⟨⟨v, rfl, hv⟩, b2⟩
          obtain ⟨A2, k2, rfl, _, _⟩ := hv
          have HB2 := Lib.hid (HB1.out.then b2)
          clear b2
          go_wp2
          go_ret
          exact ⟨rfl, HB2.out⟩
        · have hlen := linesN_len ((toLs z0).map fun x => (x, 0)) (by intro e; have := congrArg List.length e; simp [toLs] at this; exact hn (by rw [this]; rfl))
          have hev := linesN_even ((toLs z0).map fun x => (x, 0))
          have hod := linesN_odd ((toLs z0).map fun x => (x, 0))
          have hll : ((toLs z0).map fun x => (x, 0)).length = z0.length := by simp [toLs]
          rw [hll] at hlen
          have hat : ∀ i (h : i < z0.length) (h2 : i < ((toLs z0).map fun x => (x, 0)).length), ((toLs z0).map fun x => (x, 0))[i] = (z0[i].data.toList, 0) := by intro i h h2; simp [toLs]
          generalize hX : linesN ((toLs z0).map fun x => (x, 0)) = X at *
          have hne : ((X.length : Int) != 2 * (z0.length : Int) - 1) = false := by simp; omega
          have HF := Lib.hid (And.intro hev (And.intro hod (And.intro hat (And.intro hll hlen))))
          have hn0 : ¬ (z0.length : Int) = 0 := by omega
          have hn1 : ((z0.length : Int) == 0) = false := by simpa using hn0
          have hn2 : 0 < z0.length := by omega
          clear hev hod hat hll hX hn hlen
          go_wp2_with fail
          refine CR.out.mono ?_
          rintro e w2 ⟨⟨v, rfl, hv⟩, b2⟩
          have hxl := hv.len_le
          unfold maxLen at hxl
          obtain ⟨A2, k2, rfl, hG, _⟩ := hv
          have HB2 := Lib.hid (HB1.out.then b2)
          have HR2 := Lib.hid (HR.out.below b2)
          clear b2
          go_wp2_with fail
          go_loopw [80] (fun i wr => ∃ j : Nat, i = .int .i64 j ∧ j ≤ X.length ∧ Below w2.heap.size w2 wr) (fun i _ => X.length - (intOf i).toNat)
          case atStart => exact ⟨0, rfl, Nat.zero_le _, Below.refl _ _⟩
          case round =>
            obtain ⟨j, rfl, hj, hbw⟩ := hrel
            by_cases hp : j < X.length
            · obtain ⟨bX, oX, e, hbX, d0, d1, d2, d3, d4⟩ := InlsAt.cells5 (EltsAt.below hG hbw) hp
              subst e
              have HRW := Lib.hid (HR2.out.below hbw)
              have HP := Lib.hid hp
              have HW := Lib.hid hbw
              obtain ⟨hev, hod, hat, hll, hlen⟩ := HF.out
              have hw1 : wr.heap.size ≤ wr.heap.size := Nat.le_refl _
              by_cases hpar : j % 2 = 0
              · obtain ⟨i, rfl⟩ : ∃ i, j = 2 * i := ⟨j / 2, by omega⟩
                have hi : i < z0.length := by omega
                have hXi := hev i (by rw [hll]; exact hi) hp
                rw [hat i hi _] at hXi
                rw [hXi] at d0 d1 d2 d3 d4
                simp only [wordsI, Lib.mk_data] at d0 d1 d2 d3 d4
                obtain ⟨b, off, rfl, hb, hc⟩ := HRW.out.at (by intro e; rw [List.map_eq_nil_iff.1 e] at hi; simp at hi)
                have hck := hc i (by simpa using hi)
                rw [List.getElem_map] at hck
                have f1 : ((2 * i : Nat) : Int).tmod 2 = 0 := by rw [Int.tmod_eq_emod_of_nonneg (by omega)]; omega
                have f2 : ((2 * i : Nat) : Int).tdiv 2 = (i : Int) := by rw [Int.tdiv_eq_ediv_of_nonneg (by omega)]; omega
                have f3 : ((2 * i : Nat) : Int) % 2 = 0 := by omega
                have f4 : ((2 * i : Nat) : Int) / 2 = (i : Int) := by omega
                clear hev hod hat hll hlen hXi hc hpar hbw
                generalize z0[i] = x at *
                generalize hjj : 2 * i = j at *
                go_wp2_with fail
                have hBb := (Below.refl wr.heap.size wr).alloc (Nat.le_refl _) (.cells #[.int .i64 1, .int .i64 0, .string x, .string ⟨#[]⟩, .string ⟨#[]⟩] 30)
                obtain ⟨y0, y1, y2, y3, y4⟩ := five_below hBb hbX ⟨d0, d1, d2, d3, d4⟩
                obtain ⟨x0, x1, x2, x3, x4⟩ := five_box (heap_alloc_new wr (.cells #[.int .i64 1, .int .i64 0, .string x, .string ⟨#[]⟩, .string ⟨#[]⟩] 30))
                have HW2 := Lib.hid (HW.out.alloc HW.out.size (.cells #[.int .i64 1, .int .i64 0, .string x, .string ⟨#[]⟩, .string ⟨#[]⟩] 30))
                clear d0 d1 d2 d3 d4 hBb hbX hw1
                generalize wr.alloc (.cells #[.int .i64 1, .int .i64 0, .string x, .string ⟨#[]⟩, .string ⟨#[]⟩] 30) = w5 at *
                go_quiet (fail)
                go_wp2
                all_goals first
                  | exact ⟨⟨j + 1, by go_num, by have := HP.out; omega, below_drewN' HW2.out nq⟩, by have := HP.out; simp only [intOf]; omega⟩
                  | (go_roundw
                     case rel => exact ⟨j + 1, by go_num, by have := HP.out; omega, below_drewN' HW2.out nq⟩
                     case measure => have := HP.out; simp [intOf]; omega)
              · obtain ⟨i, rfl⟩ : ∃ i, j = 2 * i + 1 := ⟨j / 2, by omega⟩
                have hi : i < z0.length := by omega
                have hXi := hod i (by rw [hll]; exact hi) hp
                rw [hat i hi _] at hXi
                rw [hXi] at d0 d1 d2 d3 d4
                simp only [show (if 2 ≤ 0 then (8 : Int) else 7) = 7 from rfl] at d0
                have f1 : ((2 * i + 1 : Nat) : Int).tmod 2 = 1 := by rw [Int.tmod_eq_emod_of_nonneg (by omega)]; omega
                have f3 : ((2 * i + 1 : Nat) : Int) % 2 = 1 := by omega
                clear hev hod hat hll hlen hXi hpar hbw
                generalize hjj : 2 * i + 1 = j at *
                go_wp2_with fail
                have hBb := (Below.refl wr.heap.size wr).alloc (Nat.le_refl _) (.cells #[.int .i64 7, .int .i64 0, .string ⟨#[]⟩, .string ⟨#[]⟩, .string ⟨#[]⟩] 30)
                obtain ⟨y0, y1, y2, y3, y4⟩ := five_below hBb hbX ⟨d0, d1, d2, d3, d4⟩
                obtain ⟨x0, x1, x2, x3, x4⟩ := five_box (heap_alloc_new wr (.cells #[.int .i64 7, .int .i64 0, .string ⟨#[]⟩, .string ⟨#[]⟩, .string ⟨#[]⟩] 30))
                have HW2 := Lib.hid (HW.out.alloc HW.out.size (.cells #[.int .i64 7, .int .i64 0, .string ⟨#[]⟩, .string ⟨#[]⟩, .string ⟨#[]⟩] 30))
                clear d0 d1 d2 d3 d4 hBb hbX hw1
                generalize wr.alloc (.cells #[.int .i64 7, .int .i64 0, .string ⟨#[]⟩, .string ⟨#[]⟩, .string ⟨#[]⟩] 30) = w5 at *
                go_quiet (fail)
                go_wp2
                all_goals first
                  | exact ⟨⟨j + 1, by go_num, by have := HP.out; omega, below_drewN' HW2.out nq⟩, by have := HP.out; simp only [intOf]; omega⟩
                  | (go_roundw
                     case rel => exact ⟨j + 1, by go_num, by have := HP.out; omega, below_drewN' HW2.out nq⟩
                     case measure => have := HP.out; simp [intOf]; omega)
            · obtain rfl : j = X.length := by omega
              have HW := Lib.hid (HB2.out.trans (hbw.mono HB2.out.size))
              clear hbw hG
              go_wp2
              go_ret
              exact ⟨rfl, HW.out⟩
end Go.Proofs.YtfbaknkmpilllaaGreatDoor
