/-
  Package mark: row, withoutRow, itemSign, htmlSign: what each answers, in plain words.
-/
import Derived.Test.YtoleoigpijgboaaDoorMrkP
import Derived.Shelf.Strings.SlTrimAscii
import Derived.Test.YtoleoigpijgboaaDoorShelf
import Derived.WalkKit
import Derived.BigCall
import Derived.BigQuiet
import Derived.Deep.QuietTactic
import Derived.Lib.Hide
import Derived.Lib.OthersKept
namespace Go.Proofs.YtoleoigpijgboaaDoor
open Go.RowKit
set_option linter.unusedSimpArgs false
set_option linter.unusedVariables false

/-- The byte at k, c or not, and the rune there. -/
theorem rune_is (s : ByteArray) (k : Nat) (h : k < s.size) (c : UInt8) (hc : c.toNat < 128) : ((Utf8.decode s k).1 = c.toNat) ↔ s[k] = c := by
  constructor
  · intro e
    by_cases ha : s[k].toNat < 128
    · rw [decode_ascii s k h ha] at e
      exact UInt8.toNat_inj.1 e
    · have := (decode_high s k h (by omega)).1
      omega
  · intro e
    rw [decode_ascii s k h (by rw [e]; exact hc), e]

def RowRel (s : ByteArray) (c : UInt8) (w : World) (I : Nat) (z : Value) (wr : World) : Prop :=
  ∃ k : Nat, z = .int .i64 k ∧ k ≤ s.size ∧ wr.heap[I]? = some (.stringIter s k) ∧ Below w.heap.size w wr ∧ k + mkRow c (s.data.toList.drop k) = mkRow c s.data.toList

set_option maxHeartbeats 2000000 in
theorem row_any (s : ByteArray) (c : UInt8) (hc : c.toNat < 128) (w : World) (hs : s.size ≤ 140737488355328) :
    Calls Tryd.prog 70 #[.string s, .int .u8 c.toNat] w fun e w' => e = .returned (.int .i64 (mkRow c s.data.toList)) ∧ Below w.heap.size w w' := by
  go_enter Tryd.func70, Tryd.ntmps70
  go_wp2_with fail
  go_loopw [5] (fun z wr => RowRel s c w w.heap.size z wr) (fun _ wr => s.size - wr.iterPos w.heap.size)
  case atStart => exact ⟨0, rfl, Nat.zero_le _, World.iter_heap w s 0, (Below.refl _ w).alloc (Nat.le_refl _) _, by simp⟩
  case round =>
    obtain ⟨k, rfl, hk, hit, hbw, hsz⟩ := hrel
    by_cases hp : k < s.size
    · have hnx : ∀ ty, (Instr.next (.pointer (some ⟨w.heap.size, 0, none⟩)) true ty).run Tryd.prog wr = _ := fun ty => Lib.run_next_any_at wr w.heap.size s k ty hit hp
      have hit2 := Lib.iterAt_heap wr w.heap.size s k (k + (Utf8.decode s k).2) hit
      have hbw2 := Lib.below_iterAt hbw (k := w.heap.size) (by omega) s (k + (Utf8.decode s k).2)
      have Hit := Lib.hid hit
      have HS := Lib.hid hsz
      have HL := Lib.hid (get_list s k hp)
      clear hit hbw hsz
      by_cases h : s[k] = c
      · have hd : Utf8.decode s k = (s[k].toNat, 1) := decode_ascii s k hp (by rw [h]; exact hc)
        rw [hd] at hnx hit2 hbw2
        simp only at hnx hit2 hbw2
        have f1 : ((s[k].toNat : Int) == (c.toNat : Int)) = true := by simp [h]
        have H := Lib.hid h
        clear hd h
        go_wp2
        go_roundw
        case rel => exact ⟨k + 1, by go_num, by omega, hit2, hbw2, by rw [← HS.out, HL.out, mkRow_cons H.out]; omega⟩
        case measure => simp only [World.iterPos, hit2, Hit.out]; omega
      · have f1 : ((s[k].toNat : Int) == (c.toNat : Int)) = false := by
          simp only [beq_eq_false_iff_ne, ne_eq]
          intro e
          exact h (UInt8.toNat_inj.1 (by omega))
        have H := Lib.hid (show mkRow c s.data.toList = k from by rw [← HS.out, HL.out, mkRow_other h]; rfl)
        clear h
        go_wp2
        go_ret
        exact ⟨by rw [H.out]; rfl, hbw2⟩
    · have hnx : ∀ ty, (Instr.next (.pointer (some ⟨w.heap.size, 0, none⟩)) true ty).run Tryd.prog wr = _ := fun ty => Lib.run_next_end_at wr w.heap.size s k ty hit hp
      have e : s.data.toList.drop k = [] := List.drop_eq_nil_of_le (by simp; omega)
      have HT := Lib.hid (show mkRow c s.data.toList = k from by rw [← hsz, e]; rfl)
      clear e hsz
      go_wp2
      go_ret
      exact ⟨by rw [HT.out]; rfl, hbw⟩

theorem boolsInfo : (Tryd.prog.info? (Tryd.lays160_ren.t 116)).map (fun i => (i.zero, i.size)) = some (some (.agg (Array.replicate 256 (.bool false))), 256) := by kernel_rfl
theorem boolsInfo2 : (Tryd.prog.info? (Tryd.lays162_ren.t 116)).map (fun i => (i.zero, i.size)) = some (some (.agg (Array.replicate 256 (.bool false))), 256) := by kernel_rfl
theorem gaps_ascii : ∀ (j : Nat) b, (⟨#[32, 9]⟩ : ByteArray).data.toList[j]? = some b → b.toNat < 128
  | 0, b, h => by cases h; decide
  | 1, b, h => by cases h; decide
  | n + 2, b, h => by simp at h
theorem trim_any (s : ByteArray) (w : World) (hs : s.size ≤ 140737488355328) :
    Calls Tryd.prog 71 #[.string s, .string ⟨#[32, 9]⟩] w fun e w' => e = .returned (.string ⟨(trimG s.data.toList).toArray⟩) ∧ Below w.heap.size w w' := by
  by_cases h0 : 0 < s.size
  · refine (Any.strings_Trim_set Tryd.lays160 (zero_of_info boolsInfo).1 (zero_of_info boolsInfo).2 s ⟨#[32, 9]⟩ w (by decide) h0 (by omega) (by decide) gaps_ascii).mono ?_
    rintro e w1 ⟨rfl, q, rfl⟩
    have b1 := (Below.refl _ w).alloc (Nat.le_refl _) (.cells (Lib.setCells (⟨#[32, 9]⟩ : ByteArray).data.toList) (Tryd.lays160_ren.t 116))
    exact ⟨rfl, below_drewN' (b1.alloc b1.size _) _⟩
  · refine (Any.strings_Trim_empty Tryd.lays160 s ⟨#[32, 9]⟩ w (Or.inl (by omega))).mono ?_
    rintro e w1 ⟨rfl, rfl⟩
    have h : s.data.toList = [] := List.eq_nil_of_length_eq_zero (by rw [← Lib.size_eq]; omega)
    refine ⟨?_, Below.refl _ _⟩
    rw [h, trimG_nil, ← Lib.mk_data s, h]
theorem trimR_any (s : ByteArray) (w : World) (hs : s.size ≤ 140737488355328) :
    Calls Tryd.prog 95 #[.string s, .string ⟨#[32, 9]⟩] w fun e w' => e = .returned (.string ⟨(trimGR s.data.toList).toArray⟩) ∧ Below w.heap.size w w' := by
  by_cases h0 : 0 < s.size
  · refine (Any.strings_TrimRight_set Tryd.lays162 (zero_of_info boolsInfo2).1 (zero_of_info boolsInfo2).2 s ⟨#[32, 9]⟩ w (by decide) h0 (by omega) (by decide) gaps_ascii).mono ?_
    rintro e w1 ⟨rfl, rfl⟩
    have b1 := (Below.refl _ w).alloc (Nat.le_refl _) (.cells (Lib.setCells (⟨#[32, 9]⟩ : ByteArray).data.toList) (Tryd.lays162_ren.t 116))
    exact ⟨rfl, b1.alloc b1.size _⟩
  · refine (Any.strings_TrimRight_empty Tryd.lays162 s ⟨#[32, 9]⟩ w (Or.inl (by omega))).mono ?_
    rintro e w1 ⟨rfl, rfl⟩
    have h : s.data.toList = [] := List.eq_nil_of_length_eq_zero (by rw [← Lib.size_eq]; omega)
    refine ⟨?_, Below.refl _ _⟩
    rw [h, trimGR_nil, ← Lib.mk_data s, h]

set_option maxHeartbeats 2000000 in
theorem withoutRow_any (s : ByteArray) (w : World) (hs : s.size ≤ 140737488355328) :
    Calls Tryd.prog 75 #[.string s] w fun e w' => e = .returned (.string ⟨(mkLess s.data.toList).toArray⟩) ∧ Below w.heap.size w w' := by
  have hz := trimRB_le s.data.toList 35
  have hl : s.data.toList.length = s.size := by simp
  rw [hl] at hz
  have c1 := Tryd.strings_TrimRight_one s 35 (by decide) w (by omega)
  unfold mkLess
  generalize Lib.trimRightB s.data.toList 35 = A at *
  have c2 := trimR_any ⟨A.toArray⟩ w (by rw [str_size]; omega)
  rw [show (⟨A.toArray⟩ : ByteArray).data.toList = A from rfl] at c2
  clear hz hl
  by_cases h1 : trimGR A = A
  · rw [h1] at c2 ⊢
    by_cases h2 : A = []
    · subst h2
      rw [if_neg (by simp)]
      clear h1
      go_enter Tryd.func75, Tryd.ntmps75
      go_wp2_with fail
      refine c1.mono ?_
      rintro e w1 ⟨rfl, rfl⟩
      go_wp2_with fail
      refine c2.mono ?_
      rintro e w2 ⟨rfl, b2⟩
      go_wp2
      go_ret
      exact ⟨rfl, b2⟩
    · rw [if_pos ⟨rfl, h2⟩]
      have f2 : A.isEmpty = false := by simpa using h2
      have f3 : (A == []) = false := by simpa using h2
      clear h1 h2
      go_enter Tryd.func75, Tryd.ntmps75
      go_wp2_with fail
      refine c1.mono ?_
      rintro e w1 ⟨rfl, rfl⟩
      go_wp2_with fail
      refine c2.mono ?_
      rintro e w2 ⟨rfl, b2⟩
      go_wp2
      go_ret
      exact ⟨ret_string (Lib.mk_data s).symm, b2⟩
  · rw [if_neg (fun h => h1 h.1)]
    have f1 : @BEq.beq (List UInt8) (@List.instBEq UInt8 (@instBEqOfDecidableEq UInt8 instDecidableEqUInt8)) (trimGR A) A = false := by
      rw [beq_eq_false_iff_ne]; exact h1
    clear h1
    generalize trimGR A = B at *
    go_enter Tryd.func75, Tryd.ntmps75
    go_wp2_with fail
    refine c1.mono ?_
    rintro e w1 ⟨rfl, rfl⟩
    go_wp2_with fail
    refine c2.mono ?_
    rintro e w2 ⟨rfl, b2⟩
    go_wp2
    go_ret
    exact ⟨rfl, b2⟩

/-- What raw HTML may go on with behind its sign, of a number. -/
def htmI (c : Int) : Bool := c == 47 || c == 33 || c == 63 || (decide (97 ≤ c) && decide (c ≤ 122)) || (decide (65 ≤ c) && decide (c ≤ 90))
theorem htmI_byte (b : UInt8) : htmI (b.toNat : Int) = isHtm b := by
  unfold htmI isHtm
  have h : ∀ c : UInt8, (((b.toNat : Int) == (c.toNat : Int)) = (b == c)) := by
    intro c
    rw [Bool.eq_iff_iff, beq_iff_eq, beq_iff_eq]
    exact ⟨fun e => UInt8.toNat_inj.1 (by omega), fun e => by rw [e]⟩
  have h1 := h 47
  have h2 := h 33
  have h3 := h 63
  have d : ∀ a : Nat, decide ((a : Int) ≤ b.toNat) = decide (a ≤ b.toNat) := fun a => by rw [Bool.eq_iff_iff]; simp
  have d2 : ∀ a : Nat, decide ((b.toNat : Int) ≤ a) = decide (b.toNat ≤ a) := fun a => by rw [Bool.eq_iff_iff]; simp
  have e1 := d 97
  have e2 := d2 122
  have e3 := d 65
  have e4 := d2 90
  simp only [← h1, ← h2, ← h3, ← e1, ← e2, ← e3, ← e4]
  rfl
set_option maxHeartbeats 2000000 in
theorem htmlSign_any (c : Int) (w : World) (h0 : 0 ≤ c) (h1 : c ≤ 255) :
    Calls Tryd.prog 59 #[.int .u8 c] w fun e w' => e = .returned (.bool (htmI c)) ∧ w' = w := by
  by_cases h1 : c = 47
  · subst h1
    go_enter Tryd.func59, Tryd.ntmps59
    go_wp2
    go_ret
    exact ⟨rfl, rfl⟩
  by_cases h2 : c = 33
  · subst h2
    go_enter Tryd.func59, Tryd.ntmps59
    go_wp2
    go_ret
    exact ⟨rfl, rfl⟩
  by_cases h3 : c = 63
  · subst h3
    go_enter Tryd.func59, Tryd.ntmps59
    go_wp2
    go_ret
    exact ⟨rfl, rfl⟩
  have f1 : (c == 47) = false := by simp [h1]
  have f2 : (c == 33) = false := by simp [h2]
  have f3 : (c == 63) = false := by simp [h3]
  have e : htmI c = ((decide (97 ≤ c) && decide (c ≤ 122)) || (decide (65 ≤ c) && decide (c ≤ 90))) := by
    unfold htmI; rw [f1, f2, f3]; rfl
  have HE := Lib.hid e
  clear e h1 h2 h3
  by_cases h4 : 97 ≤ c
  · have g1 : decide (97 ≤ c) = true := by simpa using h4
    by_cases h5 : c ≤ 122
    · have g2 : decide (c ≤ 122) = true := by simpa using h5
      clear h4 h5
      go_enter Tryd.func59, Tryd.ntmps59
      go_wp2
      go_ret
      exact ⟨ret_bool (by rw [HE.out, g1, g2]; rfl), rfl⟩
    · have g2 : decide (c ≤ 122) = false := by simpa using h5
      have g3 : decide (65 ≤ c) = true := by simp; omega
      have g4 : decide (c ≤ 90) = false := by simp; omega
      clear h4 h5
      go_enter Tryd.func59, Tryd.ntmps59
      go_wp2
      go_ret
      exact ⟨ret_bool (by rw [HE.out, g1, g2, g3, g4]; rfl), rfl⟩
  · have g1 : decide (97 ≤ c) = false := by simpa using h4
    by_cases h5 : 65 ≤ c
    · have g3 : decide (65 ≤ c) = true := by simpa using h5
      by_cases h6 : c ≤ 90
      · have g4 : decide (c ≤ 90) = true := by simpa using h6
        clear h4 h5 h6
        go_enter Tryd.func59, Tryd.ntmps59
        go_wp2
        go_ret
        exact ⟨ret_bool (by rw [HE.out, g1, g3, g4]; rfl), rfl⟩
      · have g4 : decide (c ≤ 90) = false := by simpa using h6
        clear h4 h5 h6
        go_enter Tryd.func59, Tryd.ntmps59
        go_wp2
        go_ret
        exact ⟨ret_bool (by rw [HE.out, g1, g3, g4]; rfl), rfl⟩
    · have g3 : decide (65 ≤ c) = false := by simpa using h5
      clear h4 h5
      go_enter Tryd.func59, Tryd.ntmps59
      go_wp2
      go_ret
      exact ⟨ret_bool (by rw [HE.out, g1, g3]; rfl), rfl⟩

def sgV (x : UInt8 × Int × Nat) : Value := .tuple #[.int .u8 x.1.toNat, .int .i64 x.2.1, .int .i64 x.2.2]
def ItmRel (s : ByteArray) (w : World) (I : Nat) (z2 z : Value) (z4 : Value) (wr : World) : Prop :=
  ∃ k n : Nat, z2 = .int .u8 0 ∧ z = .int .i64 n ∧ z4 = .int .i64 0 ∧ k ≤ s.size ∧ n < 10 ^ k ∧ k ≤ 9 ∧ wr.heap[I]? = some (.stringIter s k) ∧ Below w.heap.size w wr ∧ itemF k n (s.data.toList.drop k) = itemSg s.data.toList
theorem ten_le {k : Nat} (h : k ≤ 9) : 10 ^ k ≤ 1000000000 := Nat.pow_le_pow_right (n := 10) (by decide) h

set_option maxHeartbeats 4000000 in
theorem itemSign_any (s : ByteArray) (w : World) (hs : s.size ≤ 140737488355328) :
    Calls Tryd.prog 77 #[.string s] w fun e w' => e = .returned (sgV (itemSg s.data.toList)) ∧ Below w.heap.size w w' := by
  go_enter Tryd.func77, Tryd.ntmps77
  go_wp2_with fail
  go_loopw [2, 3, 4] (fun z2 z z4 wr => ItmRel s w w.heap.size z2 z z4 wr) (fun _ _ _ wr => s.size - wr.iterPos w.heap.size)
  case atStart => exact ⟨0, 0, rfl, rfl, rfl, Nat.zero_le _, by decide, by omega, World.iter_heap w s 0, (Below.refl _ w).alloc (Nat.le_refl _) _, by simp [itemSg]⟩
  case round =>
    obtain ⟨k, n, rfl, rfl, rfl, hk, hn, hk9, hit, hbw, hsz⟩ := hrel
    have hten := ten_le hk9
    by_cases hp : k < s.size
    · have hnx : ∀ ty, (Instr.next (.pointer (some ⟨w.heap.size, 0, none⟩)) true ty).run Tryd.prog wr = _ := fun ty => Lib.run_next_any_at wr w.heap.size s k ty hit hp
      have hit2 := Lib.iterAt_heap wr w.heap.size s k (k + (Utf8.decode s k).2) hit
      have hbw2 := Lib.below_iterAt hbw (k := w.heap.size) (by omega) s (k + (Utf8.decode s k).2)
      have Hit := Lib.hid hit
      have HL := Lib.hid (get_list s k hp)
      rw [HL.out] at hsz
      have HS := Lib.hid hsz
      have HN := Lib.hid hn
      clear hit hbw hsz hn
      by_cases ha : s[k].toNat < 128
      · have hd : Utf8.decode s k = (s[k].toNat, 1) := decode_ascii s k hp ha
        rw [hd] at hnx hit2 hbw2
        simp only at hnx hit2 hbw2
        clear hd
        by_cases hdg : isDig s[k] = true
        · have hdg2 := hdg
          simp [isDig] at hdg2
          obtain ⟨d1, d2⟩ := hdg2
          have f1 : ((s[k].toNat : Int) == 45) = false := by simp; omega
          have f2 : ((s[k].toNat : Int) == 43) = false := by simp; omega
          have f3 : ((s[k].toNat : Int) == 42) = false := by simp; omega
          have f4 : ((s[k].toNat : Int) == 46) = false := by simp; omega
          have f5 : ((s[k].toNat : Int) == 41) = false := by simp; omega
          have f6 : decide ((48 : Int) ≤ (s[k].toNat : Int)) = true := by simp; omega
          have f7 : decide ((s[k].toNat : Int) ≤ 57) = true := by simp; omega
          by_cases hk8 : k < 9
          · have HG := Lib.hid (itemF_dig (n := n) (t := s.data.toList.drop (k + 1)) hk8 hdg)
            have g1 : decide ((k : Int) < 9) = true := by simp; omega
            have HK := Lib.hid (And.intro d1 d2)
            have HK8 := Lib.hid hk8
            clear hdg d1 d2 ha hk8
            have HR : Hid (ItmRel s w w.heap.size (Value.int IntKind.u8 0) (Value.int IntKind.i64 (wrap64 (wrap64 (↑n * 10) + wrap64 (wrap32 (↑s[k].toNat - 48))))) (Value.int IntKind.i64 0) (wr.iterAt w.heap.size s (k + 1))) := by
              refine Lib.hid ⟨k + 1, n * 10 + (s[k].toNat - 48), rfl, ?_, rfl, hp, ?_, HK8.out, hit2, hbw2, ?_⟩
              · have h1 := HK.out
                have h2 := HN.out
                congr 1
                unfold wrap64 wrap32
                omega
              · have h1 := HK.out
                have h2 := HN.out
                rw [Nat.pow_succ]
                omega
              · rw [← HG.out]; exact HS.out
            clear hten
            by_cases h0 : k = 0
            · subst h0
              go_wp2
              refine ⟨HR.out, ?_⟩
              simp only [World.iterPos, hit2, Hit.out]; omega
            · have g2 : ((k : Int) == 0) = false := by simp; omega
              have g3 : decide ((0 : Int) < (k : Int)) = true := by simp; omega
              have g4 : 0 < k := by omega
              clear h0
              go_wp2
              refine ⟨HR.out, ?_⟩
              simp only [World.iterPos, hit2, Hit.out]; omega
          · have g1 : decide ((k : Int) < 9) = false := by simp; omega
            have g2 : ((k : Int) == 0) = false := by simp; omega
            have g3 : decide ((0 : Int) < (k : Int)) = true := by simp; omega
            have g4 : 0 < k := by omega
            have HG := Lib.hid (itemF_none (n := n) (b := s[k]) (t := s.data.toList.drop (k + 1)) (i := k) (fun h => by omega) (fun _ => ⟨fun e => by rw [e] at d1; exact absurd d1 (by decide), fun e => by rw [e] at d1; exact absurd d1 (by decide)⟩) (fun h => by omega))
            clear hdg d1 d2 ha hk8 hten
            go_wp2
            go_ret3
            exact ⟨by rw [← HS.out, HG.out]; rfl, hbw2⟩
        · have hdg' : isDig s[k] = false := by simpa using hdg
          have hno : ¬ (48 ≤ s[k].toNat ∧ s[k].toNat ≤ 57) := by
            intro h
            apply hdg
            simp [isDig]; omega
          by_cases h0 : k = 0
          · subst h0
            by_cases h45 : s[0].toNat = 45 ∨ s[0].toNat = 43 ∨ s[0].toNat = 42
            · have HG := Lib.hid (itemF_sign (n := n) (b := s[0]) (t := s.data.toList.drop 1) (by
                rcases h45 with h | h | h
                · exact Or.inl (UInt8.toNat_inj.1 h)
                · exact Or.inr (Or.inl (UInt8.toNat_inj.1 h))
                · exact Or.inr (Or.inr (UInt8.toNat_inj.1 h))))
              have HF := Lib.hid (show sgV (itemSg s.data.toList) = .tuple #[.int .u8 s[0].toNat, .int .i64 (-1), .int .i64 1] from by rw [← HS.out, HG.out]; rfl)
              clear hdg hdg' hno ha hten
              rcases h45 with h | h | h
              · have f1 : ((s[0].toNat : Int) == 45) = true := by simp; omega
                clear h
                go_wp2
                go_ret3
                exact ⟨by rw [HF.out]; rfl, hbw2⟩
              · have f1 : ((s[0].toNat : Int) == 45) = false := by simp; omega
                have f2 : ((s[0].toNat : Int) == 43) = true := by simp; omega
                clear h
                go_wp2
                go_ret3
                exact ⟨by rw [HF.out]; rfl, hbw2⟩
              · have f1 : ((s[0].toNat : Int) == 45) = false := by simp; omega
                have f2 : ((s[0].toNat : Int) == 43) = false := by simp; omega
                have f3 : ((s[0].toNat : Int) == 42) = true := by simp; omega
                clear h
                go_wp2
                go_ret3
                exact ⟨by rw [HF.out]; rfl, hbw2⟩
            · have f1 : ((s[0].toNat : Int) == 45) = false := by simp; omega
              have f2 : ((s[0].toNat : Int) == 43) = false := by simp; omega
              have f3 : ((s[0].toNat : Int) == 42) = false := by simp; omega
              have HG := Lib.hid (itemF_none (n := n) (b := s[0]) (t := s.data.toList.drop 1) (i := 0) (fun _ => ⟨fun e => h45 (by rw [e]; decide), fun e => h45 (by rw [e]; decide), fun e => h45 (by rw [e]; decide)⟩) (fun h => by omega) (fun _ => hdg'))
              have HF := Lib.hid (show sgV (itemSg s.data.toList) = .tuple #[.int .u8 0, .int .i64 0, .int .i64 0] from by rw [← HS.out, HG.out]; rfl)
              clear hdg hdg' ha hten h45
              by_cases h48 : 48 ≤ s[0].toNat
              · have f6 : decide ((48 : Int) ≤ (s[0].toNat : Int)) = true := by simp; omega
                have f7 : decide ((s[0].toNat : Int) ≤ 57) = false := by simp; omega
                clear hno h48
                go_wp2
                go_ret3
                exact ⟨by rw [HF.out]; rfl, hbw2⟩
              · have f6 : decide ((48 : Int) ≤ (s[0].toNat : Int)) = false := by simp; omega
                clear hno h48
                go_wp2
                go_ret3
                exact ⟨by rw [HF.out]; rfl, hbw2⟩
          · have g2 : ((k : Int) == 0) = false := by simp; omega
            have g3 : decide ((0 : Int) < (k : Int)) = true := by simp; omega
            have g4 : 0 < k := by omega
            by_cases h46 : s[k].toNat = 46 ∨ s[k].toNat = 41
            · have HG := Lib.hid (itemF_end (n := n) (b := s[k]) (t := s.data.toList.drop (k + 1)) g4 (by
                rcases h46 with h | h
                · exact Or.inl (UInt8.toNat_inj.1 h)
                · exact Or.inr (UInt8.toNat_inj.1 h)))
              have HF := Lib.hid (show sgV (itemSg s.data.toList) = .tuple #[.int .u8 s[k].toNat, .int .i64 n, .int .i64 ((k : Int) + 1)] from by rw [← HS.out, HG.out]; rfl)
              clear hdg hdg' hno ha hten h0
              rcases h46 with h | h
              · have f4 : ((s[k].toNat : Int) == 46) = true := by simp; omega
                clear h
                go_wp2
                go_ret3
                exact ⟨by rw [HF.out]; rfl, hbw2⟩
              · have f4 : ((s[k].toNat : Int) == 46) = false := by simp; omega
                have f5 : ((s[k].toNat : Int) == 41) = true := by simp; omega
                clear h
                go_wp2
                go_ret3
                exact ⟨by rw [HF.out]; rfl, hbw2⟩
            · have f4 : ((s[k].toNat : Int) == 46) = false := by simp; omega
              have f5 : ((s[k].toNat : Int) == 41) = false := by simp; omega
              have HG := Lib.hid (itemF_none (n := n) (b := s[k]) (t := s.data.toList.drop (k + 1)) (i := k) (fun h => by omega) (fun _ => ⟨fun e => h46 (by rw [e]; decide), fun e => h46 (by rw [e]; decide)⟩) (fun _ => hdg'))
              have HF := Lib.hid (show sgV (itemSg s.data.toList) = .tuple #[.int .u8 0, .int .i64 0, .int .i64 0] from by rw [← HS.out, HG.out]; rfl)
              clear hdg hdg' ha hten h0 h46
              by_cases h9 : k < 9
              · have g1 : decide ((k : Int) < 9) = true := by simp; omega
                clear h9
                by_cases h48 : 48 ≤ s[k].toNat
                · have f6 : decide ((48 : Int) ≤ (s[k].toNat : Int)) = true := by simp; omega
                  have f7 : decide ((s[k].toNat : Int) ≤ 57) = false := by simp; omega
                  clear hno h48
                  go_wp2
                  go_ret3
                  exact ⟨by rw [HF.out]; rfl, hbw2⟩
                · have f6 : decide ((48 : Int) ≤ (s[k].toNat : Int)) = false := by simp; omega
                  clear hno h48
                  go_wp2
                  go_ret3
                  exact ⟨by rw [HF.out]; rfl, hbw2⟩
              · have g1 : decide ((k : Int) < 9) = false := by simp; omega
                clear h9 hno
                go_wp2
                go_ret3
                exact ⟨by rw [HF.out]; rfl, hbw2⟩
      · have hr := (decode_high s k hp (by omega)).1
        have f1 : (((Utf8.decode s k).1 : Int) == 45) = false := by simp; omega
        have f2 : (((Utf8.decode s k).1 : Int) == 43) = false := by simp; omega
        have f3 : (((Utf8.decode s k).1 : Int) == 42) = false := by simp; omega
        have f4 : (((Utf8.decode s k).1 : Int) == 46) = false := by simp; omega
        have f5 : (((Utf8.decode s k).1 : Int) == 41) = false := by simp; omega
        have f6 : decide ((48 : Int) ≤ ((Utf8.decode s k).1 : Int)) = true := by simp; omega
        have f7 : decide (((Utf8.decode s k).1 : Int) ≤ 57) = false := by simp; omega
        have hno : ∀ c : UInt8, c.toNat < 128 → s[k] ≠ c := fun c hc e => ha (by rw [e]; exact hc)
        have HG := Lib.hid (itemF_none (n := n) (b := s[k]) (t := s.data.toList.drop (k + 1)) (i := k) (fun _ => ⟨hno 45 (by decide), hno 43 (by decide), hno 42 (by decide)⟩) (fun _ => ⟨hno 46 (by decide), hno 41 (by decide)⟩) (fun _ => by simp [isDig]; omega))
        have HF := Lib.hid (show sgV (itemSg s.data.toList) = .tuple #[.int .u8 0, .int .i64 0, .int .i64 0] from by rw [← HS.out, HG.out]; rfl)
        clear ha hr hno hten
        by_cases h0 : k = 0
        · subst h0
          go_wp2
          go_ret3
          exact ⟨by rw [HF.out]; rfl, by simpa using hbw2⟩
        · have g2 : ((k : Int) == 0) = false := by simp; omega
          have g3 : decide ((0 : Int) < (k : Int)) = true := by simp; omega
          have g4 : 0 < k := by omega
          clear h0
          by_cases h9 : k < 9
          · have g1 : decide ((k : Int) < 9) = true := by simp; omega
            clear h9
            go_wp2
            go_ret3
            exact ⟨by rw [HF.out]; rfl, hbw2⟩
          · have g1 : decide ((k : Int) < 9) = false := by simp; omega
            clear h9
            go_wp2
            go_ret3
            exact ⟨by rw [HF.out]; rfl, hbw2⟩
    · have hnx : ∀ ty, (Instr.next (.pointer (some ⟨w.heap.size, 0, none⟩)) true ty).run Tryd.prog wr = _ := fun ty => Lib.run_next_end_at wr w.heap.size s k ty hit hp
      have e : s.data.toList.drop k = [] := List.drop_eq_nil_of_le (by simp; omega)
      rw [e] at hsz
      have HF := Lib.hid (show sgV (itemSg s.data.toList) = .tuple #[.int .u8 0, .int .i64 0, .int .i64 0] from by rw [← hsz]; rfl)
      clear e hsz hten hn
      go_wp2
      go_ret3
      exact ⟨by rw [HF.out]; rfl, hbw⟩

end Go.Proofs.YtoleoigpijgboaaDoor
