/-
  The laws of the layer slug: SlugLong.
-/
import Derived.Test.YthbgcpkgpmlolaaDoorSlF
import Derived.Lib.MinMax
import Derived.LoopN
namespace Go.Proofs.YthbgcpkgpmlolaaDoor
open Go.RowKit Go.Maps
set_option linter.unusedSimpArgs false
set_option linter.unusedVariables false
set_option maxRecDepth 100000

def slLow (b : UInt8) : Bool := decide (97 ≤ b.toNat) && decide (b.toNat ≤ 122)
theorem slLow_yes {b : UInt8} (h : slLow b = true) : 97 ≤ (b.toNat : Int) ∧ (b.toNat : Int) ≤ 122 := by simp [slLow] at h; omega
theorem slLow_no {b : UInt8} (h : slLow b = false) : (b.toNat : Int) < 97 ∨ 122 < (b.toNat : Int) := by simp [slLow] at h; omega
theorem slSize (S : ByteArray) : S.data.toList.length = S.size := by simp
theorem slTake_mem (s : ByteArray) (k : Nat) (h : k < s.size) (p : UInt8 → Bool) (ht : ∀ b ∈ s.data.toList.take k, p b = true) (hk : p s[k] = true) : ∀ b ∈ s.data.toList.take (k + 1), p b = true := by
  rw [List.take_succ_eq_append_getElem (by simpa using h)]
  intro b hb
  rcases List.mem_append.1 hb with hb | hb
  · exact ht b hb
  · rw [List.mem_singleton.1 hb]; exact hk
def SlLowRel (s : ByteArray) (v : Value) : Prop := ∃ k : Nat, v = .int .i64 k ∧ k ≤ s.size ∧ ∀ b ∈ s.data.toList.take k, slLow b = true
theorem slEmpty_of (a : ByteArray) (h : a.size = 0) : a = ⟨#[]⟩ := by
  have : a.data.toList = [] := List.length_eq_zero_iff.1 (by rw [slSize]; exact h)
  rw [← Lib.mk_data a, this]
def slLs (z : List ByteArray) : List (List UInt8) := z.map fun x => x.data.toList
def LongRel (z : List ByteArray) (s t i : Value) : Prop := ∃ (k : Nat) (u v : ByteArray), i = .int .i64 k ∧ s = .string u ∧ t = .string v ∧ k ≤ z.length ∧ u.data.toList = slWords (slLs (z.take k)) ∧ v.data.toList = slDashes (slLs (z.take k)) ∧ u.size ≤ 23 * k ∧ v.size ≤ 21 * k ∧ ∀ x ∈ z.take k, lowW x.data.toList
theorem dashes_ok (l : List (List UInt8)) (h : ∀ x ∈ l, lowW x) : SlOk (slDashes l) := by rw [← slRow_words l h]; exact SlOk.row _
theorem eq45 (z : UInt8) : ((z.toNat : Int) == 45) = (z == 45) := by
  rw [Bool.eq_iff_iff]
  simp only [beq_iff_eq]
  exact ⟨fun e => UInt8.toNat_inj.1 (by show z.toNat = 45; omega), fun e => by rw [e]; rfl⟩
theorem last_at {v : ByteArray} {p : List UInt8} {z : UInt8} (h : v.data.toList = p ++ [z]) (hk : p.length < v.size) : v[p.length]'hk = z := by
  have h2 : v.data.toList[p.length]? = some z := by rw [h]; simp
  have h3 : v.data.toList[p.length]? = some (v[p.length]'hk) := by
    rw [List.getElem?_eq_getElem (by rw [slSize]; exact hk)]; rfl
  rw [h3] at h2
  exact Option.some.inj h2

theorem trim_again {a : List UInt8} (h : SlOk a) : slTrim (slTrim a) = slTrim a := by
  have := h.trim.2.1
  generalize slTrim a = b at *
  unfold slTrim
  rw [if_neg this]
theorem trim_ne {a : List UInt8} (h : SlOk a) (hn : a ≠ []) : slTrim a ≠ [] := by
  unfold slTrim
  split
  · next h1 =>
    obtain ⟨p, z, rfl⟩ := snoc_of hn
    rw [getLastD_snoc] at h1
    subst h1
    rw [List.dropLast_concat]
    rintro rfl
    exact h.first rfl
  · exact hn
def slSz : Value → Nat
  | .string b => b.size
  | _ => 0
theorem slSz_string (b : ByteArray) : slSz (.string b) = b.size := rfl
def TrimRel (E : List UInt8) (t : Value) : Prop := ∃ p : ByteArray, t = .string p ∧ 0 < p.size ∧ p.size ≤ 40 ∧ SlOk p.data.toList ∧ slTrim p.data.toList = E
/-- A round of the loop that takes the dash at the end away. -/
theorem trim_step {E : List UInt8} {p : ByteArray} (n : Nat) (hn : p.size = n + 1) (h1 : p.size ≤ 40) (hok : SlOk p.data.toList) (hE : slTrim p.data.toList = E) :
    (p[n]'(by omega) = 45 ∧ TrimRel E (.string (p.extract 0 n)) ∧ (p.extract 0 n).size = n) ∨ (p[n]'(by omega) ≠ 45 ∧ p = ⟨E.toArray⟩) := by
  have hne : p.data.toList ≠ [] := by intro e; have := slSize p; rw [e] at this; simp at this; omega
  obtain ⟨q, z, hq⟩ := snoc_of hne
  have hl : q.length = n := by have := slSize p; rw [hq] at this; simp at this; omega
  subst hl
  have hla : p[q.length]'(by omega) = z := last_at hq (by omega)
  rw [hla]
  by_cases hz : z = 45
  · subst hz
    have hx : (p.extract 0 q.length).data.toList = q := by
      rw [ByteArray.data_extract, Array.toList_extract, List.extract_eq_take_drop, List.drop_zero, hq, Nat.sub_zero, List.take_left]
    have hqn : q ≠ [] := by rintro rfl; rw [hq] at hok; exact hok.first rfl
    have hs : (p.extract 0 q.length).size = q.length := by rw [← slSize, hx]
    have ht : slTrim p.data.toList = q := by rw [hq]; unfold slTrim; rw [getLastD_snoc, if_pos rfl, List.dropLast_concat]
    refine .inl ⟨rfl, ⟨_, rfl, ?_⟩, hs⟩
    rw [hx, hs]
    refine ⟨List.length_pos_iff.2 hqn, by omega, by rw [hq] at hok; exact hok.pre, ?_⟩
    rw [← hE, ← congrArg slTrim ht, trim_again hok]
  · refine .inr ⟨hz, ?_⟩
    have ht : slTrim p.data.toList = p.data.toList := by
      unfold slTrim
      rw [if_neg (by rw [hq, getLastD_snoc]; exact hz)]
    rw [← hE, ht, Lib.mk_data]

set_option maxHeartbeats 8000000 in
theorem slugLong_walk (w : World) (h7 : SlW w) (A0 : Option Addr) (c0 : Nat) (z0 : List ByteArray) (r0 : RowOf w A0 c0 (z0.map Value.string)) (w0 : ∀ s ∈ z0, s.size ≤ maxLen) :
    Calls Tryd.prog 7 #[.slice A0 z0.length c0] w fun e w' => e = .returned (.bool true) ∧ Below w.heap.size w w' := by
  have CA := Lib.hid (alive16_any w)
  have hle : z0.length ≤ c0 := by have := r0.1; simpa using this
  have hcap := r0.2.1
  unfold maxLen at hcap
  clear w0
  by_cases hz : 20 < z0.length
  · go_enter Tryd.func7, Tryd.ntmps7
    go_wp2_with fail
    refine CA.out.mono ?_
    rintro e w1 ⟨rfl, b1⟩
    go_wp2
    go_ret
    exact ⟨rfl, b1⟩
  · have hz0 : z0.length ≤ 20 := by omega
    clear hz
    go_enter Tryd.func7, Tryd.ntmps7
    go_wp2_with fail
    refine CA.out.mono ?_
    rintro e w1 ⟨rfl, b1⟩
    have HB1 := Lib.hid b1
    have HR := Lib.hid (r0.below b1)
    clear b1 r0
    go_wp2_with fail
    go_loop [3, 4, 18] (fun s t i => LongRel z0 s t i) (fun _ _ i => z0.length - (intOf i).toNat)
    case atStart => exact ⟨0, ⟨#[]⟩, ⟨#[]⟩, rfl, rfl, rfl, Nat.zero_le _, rfl, rfl, Nat.zero_le _, Nat.zero_le _, by simp⟩
    case round =>
      obtain ⟨k, u, v, rfl, rfl, rfl, hk, hu, hv, hus, hvs, hall⟩ := hrel
      by_cases hlt : k < z0.length
      · obtain ⟨b, off, rfl, hb, hc⟩ := HR.out.at (by intro e; rw [List.map_eq_nil_iff.1 e] at hlt; simp at hlt)
        have hck := hc k (by simpa using hlt)
        rw [List.getElem_map] at hck
        have hts : slLs (z0.take (k + 1)) = slLs (z0.take k) ++ [z0[k].data.toList] := by
          rw [List.take_succ_eq_append_getElem hlt]; unfold slLs; rw [List.map_append]; rfl
        have hw := slWords_snoc (slLs (z0.take k)) z0[k].data.toList
        have hd := slDashes_snoc (slLs (z0.take k)) z0[k].data.toList
        rw [← hts] at hw hd
        have hnil : (slLs (z0.take k) = []) ↔ k = 0 := by
          unfold slLs
          rw [List.map_eq_nil_iff, List.take_eq_nil_iff]
          constructor
          · rintro (h | h)
            · exact h
            · rw [h] at hlt; simp at hlt
          · exact .inl
        have hmem : ∀ (hx : lowW z0[k].data.toList), ∀ x ∈ z0.take (k + 1), lowW x.data.toList := by
          intro hx x hm
          rw [List.take_succ_eq_append_getElem hlt] at hm
          rcases List.mem_append.1 hm with h | h
          · exact hall x h
          · rw [List.mem_singleton.1 h]; exact hx
        have HJ := Lib.hid (And.intro hw (And.intro hd (And.intro hnil (And.intro hu (And.intro hv hmem)))))
        clear hc hts hw hd hnil hu hv hall hmem
        generalize hx0 : z0[k] = x at *
        clear hx0
        by_cases hx1 : x.size = 0
        · obtain rfl := slEmpty_of x hx1
          clear hx1
          go_wp2
          go_ret
          exact ⟨rfl, HB1.out⟩
        · have hx2 : 0 < x.size := by omega
          have e1 := toList_ne hx2
          have e2 := toList_empty hx2
          by_cases hx3 : 20 < x.size
          · clear hx1
            go_wp2
            go_ret
            exact ⟨rfl, HB1.out⟩
          · have hx4 : x.size ≤ 20 := by omega
            clear hx1 hx3
            go_wp2_with fail
            clear e1 e2
            go_loop [7] (fun v => SlLowRel x v) (fun v => x.size - (intOf v).toNat)
            case atStart => exact ⟨0, rfl, Nat.zero_le _, by simp⟩
            case round =>
              obtain ⟨j, rfl, hj, hal⟩ := hrel
              by_cases hjl : j < x.size
              · cases hb' : slLow x[j] with
                | true =>
                  have HA := Lib.hid (slTake_mem x j hjl slLow hal hb')
                  obtain ⟨g1, g2⟩ := slLow_yes hb'
                  clear hb' hal
                  go_wp2
                  all_goals first
                    | exact ⟨⟨j + 1, by go_num, by omega, HA.out⟩, by simp only [intOf]; omega⟩
                    | (go_round
                       case rel => exact ⟨j + 1, by go_num, by omega, HA.out⟩
                       case measure => simp [intOf]; omega)
                | false =>
                  have g := slLow_no hb'
                  clear hb' hal
                  rcases g with g | g
                  · go_wp2
                    go_ret
                    exact ⟨rfl, HB1.out⟩
                  · have g1 : decide ((x[j].toNat : Int) < 97) = false := by simp; omega
                    have g2 : (97 : Int) ≤ x[j].toNat := by omega
                    go_wp2
                    go_ret
                    exact ⟨rfl, HB1.out⟩
              · obtain rfl : j = x.size := by omega
                rw [List.take_of_length_le (by rw [slSize]; exact Nat.le_refl _)] at hal
                have hne : x.data.toList ≠ [] := by intro e; have := slSize x; rw [e] at this; simp at this; omega
                have HX := Lib.hid (HJ.out.2.2.2.2.2 ⟨hne, fun b hb => by have := slLow_yes (hal b hb); omega⟩)
                clear hal hne
                by_cases hk0 : k = 0
                · subst hk0
                  have hw := HJ.out.1
                  have hd := HJ.out.2.1
                  rw [if_pos (HJ.out.2.2.1.2 rfl)] at hw hd
                  obtain rfl := slEmpty_of u (by omega)
                  obtain rfl := slEmpty_of v (by omega)
                  have r2 := fun W => run_string_add_sum (P := Tryd.prog) W (⟨#[]⟩ : ByteArray) x (by show 0 + x.size ≤ _; omega)
                  have hT : ((⟨#[]⟩ : ByteArray) ++ x).data.toList = slWords (slLs (z0.take (0 + 1))) ∧ ((⟨#[]⟩ : ByteArray) ++ x).data.toList = slDashes (slLs (z0.take (0 + 1))) := by rw [hw, hd]; simp
                  have hTs : ((⟨#[]⟩ : ByteArray) ++ x).size ≤ 20 := by rw [ByteArray.size_append]; show 0 + x.size ≤ _; omega
                  generalize (⟨#[]⟩ : ByteArray) ++ x = T2 at *
                  have HT := Lib.hid hT
                  clear hT hw hd hus hvs
                  go_wp2
                  all_goals first
                    | exact ⟨⟨0 + 1, T2, T2, by go_num, rfl, rfl, by omega, HT.out.1, HT.out.2, by omega, by omega, HX.out⟩, by simp only [intOf]; omega⟩
                    | (go_round
                       case rel => exact ⟨0 + 1, T2, T2, by go_num, rfl, rfl, by omega, HT.out.1, HT.out.2, by omega, by omega, HX.out⟩
                       case measure => simp [intOf]; omega)
                · have hw := HJ.out.1
                  have hd := HJ.out.2.1
                  rw [if_neg (fun e => hk0 (HJ.out.2.2.1.1 e))] at hw hd
                  rw [← HJ.out.2.2.2.1] at hw
                  rw [← HJ.out.2.2.2.2.1] at hd
                  have r1 := fun W => run_string_add_sum (P := Tryd.prog) W u (⟨#[32, 33, 32]⟩ : ByteArray) (by show u.size + 3 ≤ _; omega)
                  have r2 := fun W => run_string_add_sum (P := Tryd.prog) W (u ++ (⟨#[32, 33, 32]⟩ : ByteArray)) x (by rw [ByteArray.size_append]; show u.size + 3 + x.size ≤ _; omega)
                  have r3 := fun W => run_string_add_sum (P := Tryd.prog) W v (⟨#[45]⟩ : ByteArray) (by show v.size + 1 ≤ _; omega)
                  have r4 := fun W => run_string_add_sum (P := Tryd.prog) W (v ++ (⟨#[45]⟩ : ByteArray)) x (by rw [ByteArray.size_append]; show v.size + 1 + x.size ≤ _; omega)
                  have hT : ((u ++ (⟨#[32, 33, 32]⟩ : ByteArray)) ++ x).data.toList = slWords (slLs (z0.take (k + 1))) := by rw [hw]; simp
                  have hD : ((v ++ (⟨#[45]⟩ : ByteArray)) ++ x).data.toList = slDashes (slLs (z0.take (k + 1))) := by rw [hd]; simp
                  have hTs : ((u ++ (⟨#[32, 33, 32]⟩ : ByteArray)) ++ x).size ≤ 23 * (k + 1) := by rw [ByteArray.size_append, ByteArray.size_append]; show u.size + 3 + x.size ≤ _; omega
                  have hDs : ((v ++ (⟨#[45]⟩ : ByteArray)) ++ x).size ≤ 21 * (k + 1) := by rw [ByteArray.size_append, ByteArray.size_append]; show v.size + 1 + x.size ≤ _; omega
                  generalize (u ++ (⟨#[32, 33, 32]⟩ : ByteArray)) ++ x = T2 at *
                  generalize u ++ (⟨#[32, 33, 32]⟩ : ByteArray) = T1 at *
                  generalize (v ++ (⟨#[45]⟩ : ByteArray)) ++ x = D2 at *
                  generalize v ++ (⟨#[45]⟩ : ByteArray) = D1 at *
                  have HT := Lib.hid (And.intro hT (And.intro hD (And.intro hTs hDs)))
                  have hk1 : 0 < k := by omega
                  clear hT hD hTs hDs hw hd hus hvs hk0
                  go_wp2
                  all_goals first
                    | exact ⟨⟨k + 1, T2, D2, by go_num, rfl, rfl, by omega, HT.out.1, HT.out.2.1, HT.out.2.2.1, HT.out.2.2.2, HX.out⟩, by simp only [intOf]; omega⟩
                    | (go_round
                       case rel => exact ⟨k + 1, T2, D2, by go_num, rfl, rfl, by omega, HT.out.1, HT.out.2.1, HT.out.2.2.1, HT.out.2.2.2, HX.out⟩
                       case measure => simp [intOf]; omega)
      · obtain rfl : k = z0.length := by omega
        rw [List.take_length] at hall hu hv
        have co := of_any u w1 (by omega)
        have hlw : ∀ x ∈ slLs z0, lowW x := fun x hx => by obtain ⟨y, hy, rfl⟩ := List.mem_map.1 hx; exact hall y hy
        rw [hu, slug_words _ hlw] at co
        have hok := (dashes_ok _ hlw)
        rw [← hv] at co hok
        by_cases hn : z0.length = 0
        · obtain rfl := List.length_eq_zero_iff.1 hn
          obtain rfl := slEmpty_of v (by simp only [List.length_nil] at hvs; omega)
          rw [show slEnd ((⟨#[]⟩ : ByteArray).data.toList.take 40) = [115, 101, 99, 116, 105, 111, 110] from by decide] at co
          have CO := Lib.hid co
          have hsl := fun W => slice_hi (⟨#[115, 101, 99, 116, 105, 111, 110]⟩ : ByteArray) (7 : Int) 7 rfl (by decide) W
          rw [show (⟨#[115, 101, 99, 116, 105, 111, 110]⟩ : ByteArray).extract 0 7 = ⟨#[115, 101, 99, 116, 105, 111, 110]⟩ from by decide] at hsl
          clear co hok hu hv hus hvs hall hlw hn
          go_wp2_with fail
          refine wp_loop_rounds 1 ?_
          rw [rounds_succ]
          go_wp2_with fail
          refine CO.out.mono ?_
          rintro e w2 ⟨rfl, b2⟩
          go_wp2
          go_ret
          exact ⟨ret_bool (by decide +kernel), HB1.out.then b2⟩
        · have hnl : slLs z0 ≠ [] := by unfold slLs; intro e; exact hn (by rw [List.map_eq_nil_iff.1 e]; rfl)
          have hvn : v.data.toList ≠ [] := by rw [hv]; intro e; exact hnl ((slDashes_nil hlw).1 e)
          have hv0 : 0 < v.size := by have := slSize v; have := List.length_pos_iff.2 hvn; omega
          obtain ⟨X, hX, hsl⟩ : ∃ X : ByteArray, X.data.toList = v.data.toList.take 40 ∧ ∀ W, (Instr.slice 9 (.string v) none (some (.int .i64 (min (v.size : Int) 40))) none).run Tryd.prog W = .ok (.string X) W := by
            refine ⟨v.extract 0 (min v.size 40), ?_, fun W => slice_hi v _ (min v.size 40) (by omega) (by omega) W⟩
            rw [ByteArray.data_extract, Array.toList_extract, List.extract_eq_take_drop, List.drop_zero, Nat.sub_zero]
            by_cases h : v.size ≤ 40
            · rw [Nat.min_eq_left h, List.take_of_length_le (by rw [slSize]; exact Nat.le_refl _), List.take_of_length_le (by rw [slSize]; exact h)]
            · rw [Nat.min_eq_right (by omega)]
          have hok4 := hok.take 40
          have hXs := slSize X
          rw [hX, List.length_take, slSize] at hXs
          have hX0 : 0 < X.size := by omega
          have hX1 : X.size ≤ 40 := by omega
          rw [← hX] at co hok4
          have hXn : X.data.toList ≠ [] := by intro e; have := slSize X; rw [e] at this; simp at this; omega
          have e3 : slEnd X.data.toList = slTrim X.data.toList := by unfold slEnd; rw [if_neg (trim_ne hok4 hXn)]
          rw [e3] at co
          have HREL := Lib.hid (⟨X, rfl, hX0, hX1, hok4, rfl⟩ : TrimRel (slTrim X.data.toList) (.string X))
          generalize slTrim X.data.toList = E at *
          have CO := Lib.hid co
          have e1 := toList_ne hv0
          have e2 := toList_empty hv0
          clear co hok hu hv hall hlw hn hnl hvn hX hok4 hXs hXn e3
          go_wp2_with fail
          clear e1 e2 hsl
          go_loop [4] (fun t => TrimRel E t) (fun t => slSz t)
          case atStart => exact HREL.out
          case round =>
            obtain ⟨p, rfl, h0, h1, hok, hE⟩ := hrel
            obtain ⟨n, hn⟩ : ∃ n, p.size = n + 1 := ⟨p.size - 1, by omega⟩
            have hm1 : (p.size : Int) - 1 = (n : Int) := by omega
            have hnl : n < p.size := by omega
            rcases trim_step n hn h1 hok hE with ⟨g, hr, hsz⟩ | ⟨g, hr⟩
            · have hb : ((p[n].toNat : Int) == 45) = true := by rw [g]; rfl
              have hs2 := fun W => slice_hi p (n : Int) n rfl (by omega) W
              have HR2 := Lib.hid hr
              clear hr g hE hok
              go_wp2
              all_goals first
                | exact ⟨HR2.out, by simp only [slSz_string]; omega⟩
                | (go_round
                   case rel => exact HR2.out
                   case measure => simp only [slSz_string]; omega)
            · have hb : ((p[n].toNat : Int) == 45) = false := by rw [eq45]; simpa using g
              have HP := Lib.hid hr
              clear hr g hE hok
              go_wp2_with fail
              refine CO.out.mono ?_
              rintro e w2 ⟨rfl, b2⟩
              rw [← HP.out]
              go_wp2
              go_ret
              exact ⟨ret_bool (by simp), HB1.out.then b2⟩

end Go.Proofs.YthbgcpkgpmlolaaDoor
