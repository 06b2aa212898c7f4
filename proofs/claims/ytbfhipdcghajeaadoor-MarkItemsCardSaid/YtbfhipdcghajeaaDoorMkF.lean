/-
  MarkItems: an item's sign, number and columns; what stands behind them; the law's walk.
-/
import Derived.Test.YtbfhipdcghajeaaDoorMkE
namespace Go.Proofs.YtbfhipdcghajeaaDoor
open Go.RowKit
set_option linter.unusedSimpArgs false
set_option linter.unusedVariables false
set_option maxRecDepth 100000

/-- The number that digits are. -/
def decV : List UInt8 → Nat
  | [] => 0
  | b :: l => (b.toNat - 48) * 10 ^ l.length + decV l
theorem itemF_num : ∀ (d : List UInt8) (i n : Nat) (s : UInt8) (r : List UInt8), (∀ b ∈ d, isDig b = true) → i + d.length ≤ 9 → 0 < i + d.length → (s = 46 ∨ s = 41) →
    itemF i n (d ++ s :: r) = (s, ((n * 10 ^ d.length + decV d : Nat) : Int), i + d.length + 1)
  | [], i, n, s, r, _, h1, h2, hs => by
    rw [List.nil_append, itemF_end (by simpa using h2) hs]
    simp [decV]
  | b :: d, i, n, s, r, hd, h1, h2, hs => by
    have hl : i + (d.length + 1) ≤ 9 := by simpa using h1
    rw [List.cons_append, itemF_dig (by omega) (hd b (by simp)), itemF_num d (i + 1) _ s r (fun x hx => hd x (by simp [hx])) (by omega) (by omega) hs]
    have e : (n * 10 + (b.toNat - 48)) * 10 ^ d.length + decV d = n * 10 ^ (d.length + 1) + ((b.toNat - 48) * 10 ^ d.length + decV d) := by
      rw [Nat.add_mul, Nat.pow_succ, Nat.mul_comm (10 ^ d.length) 10, Nat.mul_assoc]; omega
    simp only [decV, List.length_cons, e]
    congr 2
    omega
theorem dig_facts {b : UInt8} (h : isDig b = true) : isGap b = false ∧ isRS b = false := by
  have h2 := h
  simp [isDig] at h2
  have hne : ∀ c : UInt8, (c.toNat < 48 ∨ 57 < c.toNat) → (b == c) = false := by
    intro c hc
    simp only [beq_eq_false_iff_ne, ne_eq]
    rintro rfl
    omega
  simp [isGap, isRS, hne 32 (by decide), hne 9 (by decide), hne 45 (by decide), hne 42 (by decide), hne 95 (by decide)]
/-- An item that is made of its parts. -/
theorem mkItem_made {k gap : Nat} {D text : List UInt8} {sg : UInt8} (hk : k ≤ 3) (hD : ∀ b ∈ D, isDig b = true) (h1 : 1 ≤ D.length) (h9 : D.length ≤ 9) (hs : sg = 46 ∨ sg = 41) (hg : 1 ≤ gap)
    (ht : ∀ b t, text = b :: t → b ≠ 32) (hne : text ≠ []) :
    mkItem (List.replicate k 32 ++ (D ++ sg :: (List.replicate gap 32 ++ text))) = some (sg, ((decV D : Nat) : Int), k + (D.length + 1) + (if 4 < gap then 1 else gap), if 4 < gap then List.replicate (gap - 1) 32 ++ text else text) := by
  obtain ⟨b, D', hDe⟩ : ∃ b D', D = b :: D' := by
    cases D with
    | nil => simp at h1
    | cons b D' => exact ⟨b, D', rfl⟩
  have hbd := dig_facts (hD b (by rw [hDe]; simp))
  have hb : mkBegin (List.replicate k 32 ++ (D ++ sg :: (List.replicate gap 32 ++ text))) = D ++ sg :: (List.replicate gap 32 ++ text) := by
    rw [hDe, List.cons_append]
    exact mkBegin_few hk hbd.1
  have hc : mCols (List.replicate k 32 ++ (D ++ sg :: (List.replicate gap 32 ++ text))) 0 = k := by
    rw [hDe, List.cons_append, mCols_rep, mCols_other hbd.1]; omega
  have hr : mkRule (List.replicate k 32 ++ (D ++ sg :: (List.replicate gap 32 ++ text))) = false := by
    unfold mkRule
    rw [hb, hDe, List.cons_append]
    exact ruleH_no (fun _ => hbd.2) (fun h => by cases h) hbd.1
  have hi : itemSg (D ++ sg :: (List.replicate gap 32 ++ text)) = (sg, ((decV D : Nat) : Int), D.length + 1) := by
    unfold itemSg
    rw [itemF_num D 0 0 sg _ hD (by omega) (by omega) hs]
    simp
  have hdr : (D ++ sg :: (List.replicate gap 32 ++ text)).drop (D.length + 1) = List.replicate gap 32 ++ text := by
    rw [show D ++ sg :: (List.replicate gap 32 ++ text) = (D ++ [sg]) ++ (List.replicate gap 32 ++ text) from by simp]
    have := List.drop_left (l₁ := D ++ [sg]) (l₂ := List.replicate gap 32 ++ text)
    rw [List.length_append] at this
    exact this
  have hrow : mkRow 32 (List.replicate gap 32 ++ text) = gap := by
    rw [mkRow_rep]
    cases text with
    | nil => exact absurd rfl hne
    | cons c t => rw [mkRow_other (ht c t rfl)]; rfl
  have hlen : (List.replicate gap (32 : UInt8) ++ text).length = gap + text.length := by simp
  have htl : 0 < text.length := List.length_pos_iff.2 hne
  have hgp : mkGap (List.replicate gap 32 ++ text) = if 4 < gap then 1 else gap := by
    unfold mkGap
    rw [hrow, hlen]
    by_cases h : 4 < gap
    · rw [if_pos (Or.inl h), if_pos h]
    · rw [if_neg (by omega), if_neg h]
  unfold mkItem
  dsimp only
  rw [hb, hi]
  dsimp only
  rw [hdr, hrow, hr, hgp, hc, hlen, if_neg (by rintro (h | ⟨h, _⟩ | h); exact absurd h (by omega); omega; exact absurd h (by decide))]
  congr 4
  by_cases h : 4 < gap
  · rw [if_pos h, if_pos h, show min 1 (gap + text.length) = 1 from by omega]
    obtain ⟨j, rfl⟩ : ∃ j, gap = j + 1 := ⟨gap - 1, by omega⟩
    rw [List.replicate_succ]; rfl
  · rw [if_neg h, if_neg h, show min gap (gap + text.length) = gap from by omega]
    exact rep_drop gap 32 text
theorem dig_step {num v k V : Nat} (h : num = v * 10 ^ k + V) : num = v / 10 * 10 ^ (k + 1) + (v % 10 * 10 ^ k + V) := by
  have e : v / 10 * 10 ^ (k + 1) + v % 10 * 10 ^ k = v * 10 ^ k := by
    rw [Nat.pow_succ, Nat.mul_comm (10 ^ k) 10, ← Nat.mul_assoc, ← Nat.add_mul, Nat.mul_comm (v / 10) 10, Nat.div_add_mod]
  omega
theorem dig_few {num v k V : Nat} (h : num = v * 10 ^ k + V) (hv : 0 < v) (hn : num ≤ 999999999) : k < 9 := by
  rcases Nat.lt_or_ge k 9 with h9 | h9
  · exact h9
  · exfalso
    have h1 : 10 ^ 9 ≤ 10 ^ k := Nat.pow_le_pow_right (by decide) h9
    have h2 : 1 * 10 ^ k ≤ v * 10 ^ k := Nat.mul_le_mul_right _ hv
    omega

/-- The digits of a number, from its end on. -/
def DigRel (num : Nat) (w : World) (zd zv : Value) (wr : World) : Prop := ∃ (v : Nat) (D : ByteArray), zv = .int .i64 v ∧ zd = .string D ∧ (∀ b ∈ D.data.toList, isDig b = true) ∧ num = v * 10 ^ D.data.toList.length + decV D.data.toList ∧ D.size ≤ 9 ∧ Below w.heap.size w wr
theorem digit_byte (v : Nat) : (48 + UInt8.ofNat (v % 10)).toNat = 48 + v % 10 := by
  rw [UInt8.toNat_add, UInt8.toNat_ofNat']
  show (48 + v % 10 % 256) % 256 = _
  omega
theorem digits_more {num v : Nat} {D : ByteArray} {b : UInt8} (hb : b.toNat = 48 + v % 10) (hd : ∀ b ∈ D.data.toList, isDig b = true) (hn : num = v * 10 ^ D.data.toList.length + decV D.data.toList) :
    (∀ x ∈ ((⟨#[b]⟩ : ByteArray) ++ D).data.toList, isDig x = true) ∧ num = v / 10 * 10 ^ ((⟨#[b]⟩ : ByteArray) ++ D).data.toList.length + decV ((⟨#[b]⟩ : ByteArray) ++ D).data.toList := by
  have e : ((⟨#[b]⟩ : ByteArray) ++ D).data.toList = b :: D.data.toList := by simp
  rw [e]
  constructor
  · intro x hx
    rcases List.mem_cons.1 hx with rfl | hx
    · unfold isDig; rw [hb]; simp; omega
    · exact hd x hx
  · simp only [List.length_cons, decV, hb]
    rw [show 48 + v % 10 - 48 = v % 10 from by omega]
    exact dig_step hn
theorem one_more (b : UInt8) (D : ByteArray) : ((⟨#[b]⟩ : ByteArray) ++ D).size = D.size + 1 := by rw [ByteArray.size_append]; show 1 + _ = _; omega
theorem item_text (S D G a : ByteArray) (sg : UInt8) (k gap : Nat) (hS : S.data.toList = [] ++ List.replicate k 32) (hG : G.data.toList = [] ++ List.replicate gap 32) :
    ((((S ++ D) ++ (⟨#[sg]⟩ : ByteArray)) ++ G) ++ a).data.toList = List.replicate k 32 ++ (D.data.toList ++ sg :: (List.replicate gap 32 ++ a.data.toList)) := by
  simp only [ByteArray.data_append, Array.toList_append, hS, hG, List.nil_append, List.append_assoc]
  rfl
theorem rest_text (G a : ByteArray) (gap : Nat) (hG : G.data.toList = [] ++ List.replicate gap 32) : (⟨(List.replicate (gap - 1) 32 ++ a.data.toList).toArray⟩ : ByteArray) = G.extract 1 G.size ++ a := by
  apply ByteArray.ext
  apply Array.ext'
  rw [ByteArray.data_append, Array.toList_append, ext_list, hG, List.nil_append, List.drop_replicate]

set_option maxHeartbeats 16000000 in
theorem markItems_bracket (w : World) (num bl gap : Nat) (a : ByteArray) (hnum : num ≤ 999999999) (h3 : bl ≤ 3) (g1 : 1 ≤ gap) (g8 : gap ≤ 8) (h40 : a.size ≤ 40) (ha0 : 0 < a.size) (ha32 : ¬ a[0].toNat = 32) :
    Calls Tryd.prog 6 #[.int .i64 num, .int .i64 bl, .int .i64 gap, .string a, .bool true] w fun e w' => e = .returned (.bool true) ∧ Below w.heap.size w w' := by
  have hae := toList_empty ha0
  have fa0 : ((a[0].toNat : Int) == 32) = false := by simp; omega
  have HT0 := Lib.hid (show ∀ b t, a.data.toList = b :: t → b ≠ 32 from by
    intro b t h e
    have h2 := get_list a 0 ha0
    rw [List.drop_zero, h] at h2
    injection h2 with h2 _
    rw [e] at h2
    exact ha32 (by rw [← h2]; rfl))
  have HTN := Lib.hid (show a.data.toList ≠ [] from by
    intro e
    have h2 := get_list a 0 ha0
    rw [List.drop_zero, e] at h2
    cases h2)
  clear ha32
  go_enter Tryd.func6, Tryd.ntmps6
  go_wp2_with fail
  refine (alive8_any _).mono ?_
  rintro e w1 ⟨rfl, b1⟩
  clear fa0 hae
  go_wp2_with fail
  go_loopw [11, 13] (fun z i wr => RepRel [] 32 bl w1 z i wr) (fun _ i _ => bl - (intOf i).toNat)
  case atStart => exact ⟨0, ⟨#[]⟩, rfl, Nat.zero_le _, rfl, rfl, rfl⟩
  case round =>
    obtain ⟨k, S, rfl, hk, rfl, hS, hwe⟩ := hrel
    have hwe := hwe.symm
    subst hwe
    have hsz := text_size hS
    simp only [List.nil_append, List.length_replicate] at hsz
    by_cases hp : k < bl
    · have HST := Lib.hid (rep_step hS)
      clear hS
      go_wp2
      exact ⟨⟨k + 1, _, by go_num, by omega, rfl, HST.out, rfl⟩, by simp [intOf]; omega⟩
    · obtain rfl : k = bl := by omega
      have HS := Lib.hid hS
      clear hS
      go_wp2_with fail
      go_loopw [12, 14] (fun zd zv wr => DigRel num w1 zd zv wr) (fun zd zv _ => (intOf zv).toNat + (if Lib.strSize zd = 0 then 1 else 0))
      case atStart => exact ⟨num, ⟨#[]⟩, rfl, rfl, (fun b hb => by cases hb), (by simp [decV]), by show 0 ≤ 9; omega, Below.refl _ _⟩
      case round =>
        obtain ⟨v, D, rfl, rfl, hD, hn, hD9, hbw⟩ := hrel
        have hDl : D.data.toList.length = D.size := by simp
        by_cases hv : 0 < v
        · have hfew := dig_few hn hv hnum
          rw [hDl] at hfew
          have HM := Lib.hid (digits_more (digit_byte v) hD hn)
          have hcv := conv_byte wr (48 + (v : Int) % 10) (by omega) (by omega)
          have f0 : decide ((0 : Int) < (v : Int)) = true := by simp; omega
          have k0 := fun W => run_string_add_sum (P := Tryd.prog) W (⟨#[(48 + (v : Int) % 10).toNat.toUInt8]⟩ : ByteArray) D (by show 1 + _ ≤ _; omega)
          have hvb : v ≤ 999999999 := by
            have : v * 1 ≤ v * 10 ^ D.data.toList.length := Nat.mul_le_mul_left _ (Nat.one_le_pow _ _ (by decide))
            omega
          have hom := one_more (48 + UInt8.ofNat (v % 10)) D
          have HOM := Lib.hid hom
          clear hD hn hDl hom
          go_wp2
          refine ⟨⟨v / 10, _, by go_num, rfl, HM.out.1, HM.out.2, by rw [HOM.out]; omega, below_lit hbw _⟩, ?_⟩
          rw [Lib.strSize_string, HOM.out, if_neg (by omega), Lib.strSize_string]
          simp only [intOf]
          split <;> omega
        · obtain rfl : v = 0 := by omega
          by_cases hD0 : D.size = 0
          · have hnl : D.data.toList = [] := List.eq_nil_of_length_eq_zero (by omega)
            have HM := Lib.hid (digits_more (v := 0) (b := 48) (by decide) hD hn)
            have hcv : (convert 37 9 (.slice (some ⟨wr.heap.size, 0, none⟩) 1 1)).run Tryd.prog (wr.alloc (.cells #[.int .u8 48] 5)) = .ok (.string ⟨#[48]⟩) (wr.alloc (.cells #[.int .u8 48] 5)) := conv_byte wr 48 (by decide) (by decide)
            have hde : D.toList.isEmpty = true := by rw [ByteArray.toList_eq, hnl]; rfl
            have k0 := fun W => run_string_add_sum (P := Tryd.prog) W (⟨#[48]⟩ : ByteArray) D (by show 1 + _ ≤ _; omega)
            have HOM := Lib.hid (one_more 48 D)
            have HD0 := Lib.hid hD0
            clear hD hn hDl hnl hD0
            go_wp2
            refine ⟨⟨0, _, rfl, rfl, HM.out.1, HM.out.2, by rw [HOM.out, HD0.out]; decide, below_lit hbw _⟩, ?_⟩
            rw [Lib.strSize_string, HOM.out, if_neg (by omega), Lib.strSize_string, if_pos HD0.out]
            simp [intOf]
          · have hde := toList_empty (show 0 < D.size from by omega)
            have HD := Lib.hid hD
            have HDV := Lib.hid (show ((decV D.data.toList : Nat) : Int) = (num : Int) from by omega)
            have HDL := Lib.hid hDl
            have HBW := Lib.hid (b1.then hbw)
            clear hD hn hDl hbw
            rename World => wB
            go_wp2_with fail
            go_loopw [16, 17] (fun z i wr => RepRel [] 32 gap wB z i wr) (fun _ i _ => gap - (intOf i).toNat)
            case atStart => exact ⟨0, ⟨#[]⟩, rfl, Nat.zero_le _, rfl, rfl, rfl⟩
            case round =>
              obtain ⟨j, G, rfl, hj, rfl, hG, hwe⟩ := hrel
              have hwe := hwe.symm
              subst hwe
              have hszG := text_size hG
              simp only [List.nil_append, List.length_replicate] at hszG
              by_cases hp2 : j < gap
              · have HST := Lib.hid (rep_step hG)
                clear hG
                go_wp2
                exact ⟨⟨j + 1, _, by go_num, by omega, rfl, HST.out, rfl⟩, by simp [intOf]; omega⟩
              · obtain rfl : j = gap := by omega
                have z1 : (S ++ D).size ≤ 12 := by rw [ByteArray.size_append]; omega
                have z2 : ((S ++ D) ++ (⟨#[41]⟩ : ByteArray)).size ≤ 13 := by rw [ByteArray.size_append]; show _ + 1 ≤ _; omega
                have z3 : (((S ++ D) ++ (⟨#[41]⟩ : ByteArray)) ++ G).size ≤ 21 := by rw [ByteArray.size_append]; omega
                have c1 := fun w1 => mkItem_any ((((S ++ D) ++ (⟨#[41]⟩ : ByteArray)) ++ G) ++ a) w1 (by rw [ByteArray.size_append]; omega)
                rw [item_text S D G a 41 k j HS.out hG, mkItem_made h3 HD.out (by rw [HDL.out]; omega) (by rw [HDL.out]; omega) (by decide) g1 HT0.out HTN.out, HDV.out, HDL.out] at c1
                have k1 := fun W => run_string_add_sum (P := Tryd.prog) W S D (by omega)
                have k2 := fun W => run_string_add_sum (P := Tryd.prog) W (S ++ D) (⟨#[41]⟩ : ByteArray) (by show _ + 1 ≤ _; omega)
                have k3 := fun W => run_string_add_sum (P := Tryd.prog) W ((S ++ D) ++ (⟨#[41]⟩ : ByteArray)) G (by omega)
                have k4 := fun W => run_string_add_sum (P := Tryd.prog) W (((S ++ D) ++ (⟨#[41]⟩ : ByteArray)) ++ G) a (by omega)
                have HRT := Lib.hid (rest_text G a j hG)
                clear hG hde
                by_cases h4 : 4 < j
                · rw [if_pos h4, if_pos h4] at c1
                  unfold mkItemV at c1
                  dsimp only at c1
                  rw [HRT.out] at c1
                  rw [show ((k + (D.size + 1) + 1 : Nat) : Int) = (k : Int) + (D.size : Int) + 1 + 1 from by omega] at c1
                  have f4 : decide ((4 : Int) < (j : Int)) = true := by simp; omega
                  have z5 : (G.extract 1 G.size).size ≤ 8 := by rw [ByteArray.size_extract]; omega
                  have k5 := fun W => run_string_add_sum (P := Tryd.prog) W (G.extract 1 G.size) a (by omega)
                  have hG1 : (1 : Int) ≤ (G.size : Int) := by omega
                  clear z1 z2 z3 z5 hszG hsz
                  go_wp2_with fail
                  refine (c1 _).mono ?_
                  rintro e w2 ⟨rfl, b2⟩
                  have hsl : ∀ W, (Instr.slice 9 (.string G) (some (.int .i64 1)) none none).run Tryd.prog W = .ok (.string (G.extract 1 G.size)) W := fun W => run_slice_string_l (P := Tryd.prog) W 9 G Tryd.underlying9 .i64 1 (by omega) (by omega)
                  go_wp2_with fail
                  go_quiet (fail)
                  go_wp2
                  go_ret
                  exact ⟨rfl, below_drewN' (HBW.out.then b2) _⟩
                · rw [if_neg h4, if_neg h4] at c1
                  unfold mkItemV at c1
                  dsimp only at c1
                  rw [Lib.mk_data] at c1
                  rw [show ((k + (D.size + 1) + j : Nat) : Int) = (k : Int) + (D.size : Int) + 1 + (j : Int) from by omega] at c1
                  have f4 : decide ((4 : Int) < (j : Int)) = false := by simp; omega
                  clear z1 z2 z3 hszG hsz
                  go_wp2_with fail
                  refine (c1 _).mono ?_
                  rintro e w2 ⟨rfl, b2⟩
                  go_wp2
                  go_ret
                  exact ⟨rfl, HBW.out.then b2⟩

set_option maxHeartbeats 16000000 in
theorem markItems_dot (w : World) (num bl gap : Nat) (a : ByteArray) (hnum : num ≤ 999999999) (h3 : bl ≤ 3) (g1 : 1 ≤ gap) (g8 : gap ≤ 8) (h40 : a.size ≤ 40) (ha0 : 0 < a.size) (ha32 : ¬ a[0].toNat = 32) :
    Calls Tryd.prog 6 #[.int .i64 num, .int .i64 bl, .int .i64 gap, .string a, .bool false] w fun e w' => e = .returned (.bool true) ∧ Below w.heap.size w w' := by
  have hae := toList_empty ha0
  have fa0 : ((a[0].toNat : Int) == 32) = false := by simp; omega
  have HT0 := Lib.hid (show ∀ b t, a.data.toList = b :: t → b ≠ 32 from by
    intro b t h e
    have h2 := get_list a 0 ha0
    rw [List.drop_zero, h] at h2
    injection h2 with h2 _
    rw [e] at h2
    exact ha32 (by rw [← h2]; rfl))
  have HTN := Lib.hid (show a.data.toList ≠ [] from by
    intro e
    have h2 := get_list a 0 ha0
    rw [List.drop_zero, e] at h2
    cases h2)
  clear ha32
  go_enter Tryd.func6, Tryd.ntmps6
  go_wp2_with fail
  refine (alive8_any _).mono ?_
  rintro e w1 ⟨rfl, b1⟩
  clear fa0 hae
  go_wp2_with fail
  go_loopw [11, 13] (fun z i wr => RepRel [] 32 bl w1 z i wr) (fun _ i _ => bl - (intOf i).toNat)
  case atStart => exact ⟨0, ⟨#[]⟩, rfl, Nat.zero_le _, rfl, rfl, rfl⟩
  case round =>
    obtain ⟨k, S, rfl, hk, rfl, hS, hwe⟩ := hrel
    have hwe := hwe.symm
    subst hwe
    have hsz := text_size hS
    simp only [List.nil_append, List.length_replicate] at hsz
    by_cases hp : k < bl
    · have HST := Lib.hid (rep_step hS)
      clear hS
      go_wp2
      exact ⟨⟨k + 1, _, by go_num, by omega, rfl, HST.out, rfl⟩, by simp [intOf]; omega⟩
    · obtain rfl : k = bl := by omega
      have HS := Lib.hid hS
      clear hS
      go_wp2_with fail
      go_loopw [12, 14] (fun zd zv wr => DigRel num w1 zd zv wr) (fun zd zv _ => (intOf zv).toNat + (if Lib.strSize zd = 0 then 1 else 0))
      case atStart => exact ⟨num, ⟨#[]⟩, rfl, rfl, (fun b hb => by cases hb), (by simp [decV]), by show 0 ≤ 9; omega, Below.refl _ _⟩
      case round =>
        obtain ⟨v, D, rfl, rfl, hD, hn, hD9, hbw⟩ := hrel
        have hDl : D.data.toList.length = D.size := by simp
        by_cases hv : 0 < v
        · have hfew := dig_few hn hv hnum
          rw [hDl] at hfew
          have HM := Lib.hid (digits_more (digit_byte v) hD hn)
          have hcv := conv_byte wr (48 + (v : Int) % 10) (by omega) (by omega)
          have f0 : decide ((0 : Int) < (v : Int)) = true := by simp; omega
          have k0 := fun W => run_string_add_sum (P := Tryd.prog) W (⟨#[(48 + (v : Int) % 10).toNat.toUInt8]⟩ : ByteArray) D (by show 1 + _ ≤ _; omega)
          have hvb : v ≤ 999999999 := by
            have : v * 1 ≤ v * 10 ^ D.data.toList.length := Nat.mul_le_mul_left _ (Nat.one_le_pow _ _ (by decide))
            omega
          have hom := one_more (48 + UInt8.ofNat (v % 10)) D
          have HOM := Lib.hid hom
          clear hD hn hDl hom
          go_wp2
          refine ⟨⟨v / 10, _, by go_num, rfl, HM.out.1, HM.out.2, by rw [HOM.out]; omega, below_lit hbw _⟩, ?_⟩
          rw [Lib.strSize_string, HOM.out, if_neg (by omega), Lib.strSize_string]
          simp only [intOf]
          split <;> omega
        · obtain rfl : v = 0 := by omega
          by_cases hD0 : D.size = 0
          · have hnl : D.data.toList = [] := List.eq_nil_of_length_eq_zero (by omega)
            have HM := Lib.hid (digits_more (v := 0) (b := 48) (by decide) hD hn)
            have hcv : (convert 37 9 (.slice (some ⟨wr.heap.size, 0, none⟩) 1 1)).run Tryd.prog (wr.alloc (.cells #[.int .u8 48] 5)) = .ok (.string ⟨#[48]⟩) (wr.alloc (.cells #[.int .u8 48] 5)) := conv_byte wr 48 (by decide) (by decide)
            have hde : D.toList.isEmpty = true := by rw [ByteArray.toList_eq, hnl]; rfl
            have k0 := fun W => run_string_add_sum (P := Tryd.prog) W (⟨#[48]⟩ : ByteArray) D (by show 1 + _ ≤ _; omega)
            have HOM := Lib.hid (one_more 48 D)
            have HD0 := Lib.hid hD0
            clear hD hn hDl hnl hD0
            go_wp2
            refine ⟨⟨0, _, rfl, rfl, HM.out.1, HM.out.2, by rw [HOM.out, HD0.out]; decide, below_lit hbw _⟩, ?_⟩
            rw [Lib.strSize_string, HOM.out, if_neg (by omega), Lib.strSize_string, if_pos HD0.out]
            simp [intOf]
          · have hde := toList_empty (show 0 < D.size from by omega)
            have HD := Lib.hid hD
            have HDV := Lib.hid (show ((decV D.data.toList : Nat) : Int) = (num : Int) from by omega)
            have HDL := Lib.hid hDl
            have HBW := Lib.hid (b1.then hbw)
            clear hD hn hDl hbw
            rename World => wB
            go_wp2_with fail
            go_loopw [16, 17] (fun z i wr => RepRel [] 32 gap wB z i wr) (fun _ i _ => gap - (intOf i).toNat)
            case atStart => exact ⟨0, ⟨#[]⟩, rfl, Nat.zero_le _, rfl, rfl, rfl⟩
            case round =>
              obtain ⟨j, G, rfl, hj, rfl, hG, hwe⟩ := hrel
              have hwe := hwe.symm
              subst hwe
              have hszG := text_size hG
              simp only [List.nil_append, List.length_replicate] at hszG
              by_cases hp2 : j < gap
              · have HST := Lib.hid (rep_step hG)
                clear hG
                go_wp2
                exact ⟨⟨j + 1, _, by go_num, by omega, rfl, HST.out, rfl⟩, by simp [intOf]; omega⟩
              · obtain rfl : j = gap := by omega
                have z1 : (S ++ D).size ≤ 12 := by rw [ByteArray.size_append]; omega
                have z2 : ((S ++ D) ++ (⟨#[46]⟩ : ByteArray)).size ≤ 13 := by rw [ByteArray.size_append]; show _ + 1 ≤ _; omega
                have z3 : (((S ++ D) ++ (⟨#[46]⟩ : ByteArray)) ++ G).size ≤ 21 := by rw [ByteArray.size_append]; omega
                have c1 := fun w1 => mkItem_any ((((S ++ D) ++ (⟨#[46]⟩ : ByteArray)) ++ G) ++ a) w1 (by rw [ByteArray.size_append]; omega)
                rw [item_text S D G a 46 k j HS.out hG, mkItem_made h3 HD.out (by rw [HDL.out]; omega) (by rw [HDL.out]; omega) (by decide) g1 HT0.out HTN.out, HDV.out, HDL.out] at c1
                have k1 := fun W => run_string_add_sum (P := Tryd.prog) W S D (by omega)
                have k2 := fun W => run_string_add_sum (P := Tryd.prog) W (S ++ D) (⟨#[46]⟩ : ByteArray) (by show _ + 1 ≤ _; omega)
                have k3 := fun W => run_string_add_sum (P := Tryd.prog) W ((S ++ D) ++ (⟨#[46]⟩ : ByteArray)) G (by omega)
                have k4 := fun W => run_string_add_sum (P := Tryd.prog) W (((S ++ D) ++ (⟨#[46]⟩ : ByteArray)) ++ G) a (by omega)
                have HRT := Lib.hid (rest_text G a j hG)
                clear hG hde
                by_cases h4 : 4 < j
                · rw [if_pos h4, if_pos h4] at c1
                  unfold mkItemV at c1
                  dsimp only at c1
                  rw [HRT.out] at c1
                  rw [show ((k + (D.size + 1) + 1 : Nat) : Int) = (k : Int) + (D.size : Int) + 1 + 1 from by omega] at c1
                  have f4 : decide ((4 : Int) < (j : Int)) = true := by simp; omega
                  have z5 : (G.extract 1 G.size).size ≤ 8 := by rw [ByteArray.size_extract]; omega
                  have k5 := fun W => run_string_add_sum (P := Tryd.prog) W (G.extract 1 G.size) a (by omega)
                  have hG1 : (1 : Int) ≤ (G.size : Int) := by omega
                  clear z1 z2 z3 z5 hszG hsz
                  go_wp2_with fail
                  refine (c1 _).mono ?_
                  rintro e w2 ⟨rfl, b2⟩
                  have hsl : ∀ W, (Instr.slice 9 (.string G) (some (.int .i64 1)) none none).run Tryd.prog W = .ok (.string (G.extract 1 G.size)) W := fun W => run_slice_string_l (P := Tryd.prog) W 9 G Tryd.underlying9 .i64 1 (by omega) (by omega)
                  go_wp2_with fail
                  go_quiet (fail)
                  go_wp2
                  go_ret
                  exact ⟨rfl, below_drewN' (HBW.out.then b2) _⟩
                · rw [if_neg h4, if_neg h4] at c1
                  unfold mkItemV at c1
                  dsimp only at c1
                  rw [Lib.mk_data] at c1
                  rw [show ((k + (D.size + 1) + j : Nat) : Int) = (k : Int) + (D.size : Int) + 1 + (j : Int) from by omega] at c1
                  have f4 : decide ((4 : Int) < (j : Int)) = false := by simp; omega
                  clear z1 z2 z3 hszG hsz
                  go_wp2_with fail
                  refine (c1 _).mono ?_
                  rintro e w2 ⟨rfl, b2⟩
                  go_wp2
                  go_ret
                  exact ⟨rfl, HBW.out.then b2⟩

set_option maxHeartbeats 8000000 in
theorem markItems_walk (w : World) (a0 : Int) (w0 : (Lit.int .i64 a0).wf = true) (a1 : Int) (w1 : (Lit.int .i64 a1).wf = true) (a2 : Int) (w2 : (Lit.int .i64 a2).wf = true) (a3 : ByteArray) (w3 : a3.size ≤ maxLen) (a4 : Bool) :
    Calls Tryd.prog 6 #[.int .i64 a0, .int .i64 a1, .int .i64 a2, .string a3, .bool a4] w fun e w' => e = .returned (.bool true) ∧ Below w.heap.size w w' := by
  unfold maxLen at w3
  have hw0 : -9223372036854775808 ≤ a0 ∧ a0 ≤ 9223372036854775807 := by simpa [Lit.wf, IntKind.min, IntKind.max, IntKind.signed, IntKind.bits] using w0
  have hw1 : -9223372036854775808 ≤ a1 ∧ a1 ≤ 9223372036854775807 := by simpa [Lit.wf, IntKind.min, IntKind.max, IntKind.signed, IntKind.bits] using w1
  have hw2 : -9223372036854775808 ≤ a2 ∧ a2 ≤ 9223372036854775807 := by simpa [Lit.wf, IntKind.min, IntKind.max, IntKind.signed, IntKind.bits] using w2
  by_cases h : 0 ≤ a0 ∧ a0 ≤ 999999999 ∧ 0 ≤ a1 ∧ a1 ≤ 3 ∧ 1 ≤ a2 ∧ a2 ≤ 8 ∧ a3.size ≤ 40 ∧ 0 < a3.size
  · obtain ⟨g0, g1, g2, g3, g4, g5, g6, g7⟩ := h
    by_cases h32 : a3[0].toNat = 32
    · have hae := toList_empty g7
      have fa0 : ((a3[0].toNat : Int) == 32) = true := by simp; omega
      clear h32 w0 w1 w2 hw0 hw1 hw2
      go_enter Tryd.func6, Tryd.ntmps6
      go_wp2_with (go_at_call 10; refine (alive8_any _).mono ?_; rintro e w3 ⟨rfl, b2⟩)
      go_ret
      exact ⟨rfl, b2⟩
    · cases a4 with
      | true =>
        have := markItems_bracket w a0.toNat a1.toNat a2.toNat a3 (by omega) (by omega) (by omega) (by omega) g6 g7 h32
        rw [show ((a0.toNat : Nat) : Int) = a0 from by omega, show ((a1.toNat : Nat) : Int) = a1 from by omega, show ((a2.toNat : Nat) : Int) = a2 from by omega] at this
        exact this
      | false =>
        have := markItems_dot w a0.toNat a1.toNat a2.toNat a3 (by omega) (by omega) (by omega) (by omega) g6 g7 h32
        rw [show ((a0.toNat : Nat) : Int) = a0 from by omega, show ((a1.toNat : Nat) : Int) = a1 from by omega, show ((a2.toNat : Nat) : Int) = a2 from by omega] at this
        exact this
  · have hor : (a0 < 0) ∨ (0 ≤ a0 ∧ 999999999 < a0) ∨ (0 ≤ a0 ∧ a0 ≤ 999999999 ∧ a1 < 0) ∨ (0 ≤ a0 ∧ a0 ≤ 999999999 ∧ 0 ≤ a1 ∧ 3 < a1) ∨ (0 ≤ a0 ∧ a0 ≤ 999999999 ∧ 0 ≤ a1 ∧ a1 ≤ 3 ∧ a2 < 1) ∨ (0 ≤ a0 ∧ a0 ≤ 999999999 ∧ 0 ≤ a1 ∧ a1 ≤ 3 ∧ 1 ≤ a2 ∧ 8 < a2) ∨ (0 ≤ a0 ∧ a0 ≤ 999999999 ∧ 0 ≤ a1 ∧ a1 ≤ 3 ∧ 1 ≤ a2 ∧ a2 ≤ 8 ∧ 40 < a3.size) ∨ (0 ≤ a0 ∧ a0 ≤ 999999999 ∧ 0 ≤ a1 ∧ a1 ≤ 3 ∧ 1 ≤ a2 ∧ a2 ≤ 8 ∧ a3.size ≤ 40 ∧ a3.size = 0) := by omega
    have hem : a3.size = 0 → a3.toList.isEmpty = true := by
      intro h
      rw [ByteArray.toList_eq, List.eq_nil_of_length_eq_zero (show a3.data.toList.length = 0 from by rw [← Lib.size_eq]; exact h)]
      rfl
    have HEM := Lib.hid hem
    clear h w0 w1 w2 hw0 hw1 hw2 hem
    rcases hor with g0 | ⟨g0, g1⟩ | ⟨g0, g1, g2⟩ | ⟨g0, g1, g2, g3⟩ | ⟨g0, g1, g2, g3, g4⟩ | ⟨g0, g1, g2, g3, g4, g5⟩ | ⟨g0, g1, g2, g3, g4, g5, g6⟩ | ⟨g0, g1, g2, g3, g4, g5, g6, g7⟩
    case inr.inr.inr.inr.inr.inr.inr =>
      have hae := HEM.out g7
      clear g7
      go_enter Tryd.func6, Tryd.ntmps6
      go_wp2_with (go_at_call 10; refine (alive8_any _).mono ?_; rintro e w3 ⟨rfl, b2⟩)
      go_ret
      exact ⟨rfl, b2⟩
    all_goals
      go_enter Tryd.func6, Tryd.ntmps6
      go_wp2_with (go_at_call 10; refine (alive8_any _).mono ?_; rintro e w3 ⟨rfl, b2⟩)
      go_ret
      exact ⟨rfl, b2⟩

end Go.Proofs.YtbfhipdcghajeaaDoor
