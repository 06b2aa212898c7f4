/-
  EntityNumbers: the law's walk.
-/
import Derived.Test.YtggfllbaomfjhaaDoorEntQ
import Derived.Test.YtggfllbaomfjhaaDoorEntN
namespace Go.Proofs.YtggfllbaomfjhaaDoor
open Go.RowKit
set_option linter.unusedSimpArgs false
set_option linter.unusedVariables false

def emp (v : Value) : Nat := match v with | .string s => if s.size = 0 then 1 else 0 | _ => 0
def TellRel (base : Int) (m : Nat) (v : Int) (w : World) (d x : Value) (wr : World) : Prop :=
  ∃ (D : ByteArray) (W : Int), d = .string D ∧ x = .int .i64 W ∧ W ≤ 1114128 ∧ DigRel base m v W D.data.toList ∧ Below w.heap.size w wr
theorem cons_list (x : UInt8) (D : ByteArray) : ((⟨#[x]⟩ : ByteArray) ++ D).data.toList = x :: D.data.toList := by simp
theorem cons_size (x : UInt8) (D : ByteArray) : ((⟨#[x]⟩ : ByteArray) ++ D).size = D.size + 1 := by
  rw [ByteArray.size_append]; show 1 + _ = _; omega
theorem list_nil {D : ByteArray} (h : ¬ 0 < D.size) : D.data.toList = [] := by
  apply List.eq_nil_of_length_eq_zero; have := size_len D; omega
theorem list_nil' {D : ByteArray} (h : ¬ 0 < D.size) : D.toList = [] := by
  rw [ByteArray.toList_eq]; exact list_nil h
theorem sumA (D M : ByteArray) : (((⟨#[38, 35]⟩ : ByteArray) ++ D) ++ (⟨#[59]⟩ : ByteArray) ++ M).data.toList = 38 :: 35 :: (D.data.toList ++ 59 :: M.data.toList) := by simp
theorem sumB (x : UInt8) (D M : ByteArray) : ((((⟨#[38, 35]⟩ : ByteArray) ++ (⟨#[x]⟩ : ByteArray)) ++ D) ++ (⟨#[59]⟩ : ByteArray) ++ M).data.toList = 38 :: 35 :: x :: (D.data.toList ++ 59 :: M.data.toList) := by simp

/-- What the law wants for a number. -/
def WantOf (v : Int) (X : ByteArray) : Prop :=
  (0 < v ∧ v ≤ 1114111 ∧ v < 55296 ∧ X = Utf8.encode v) ∨ (0 < v ∧ v ≤ 1114111 ∧ 55296 ≤ v ∧ 57343 < v ∧ X = Utf8.encode v) ∨ (v ≤ 0 ∧ X = ⟨#[239, 191, 189]⟩) ∨ (0 < v ∧ v ≤ 1114111 ∧ 55296 ≤ v ∧ v ≤ 57343 ∧ X = ⟨#[239, 191, 189]⟩) ∨ (0 < v ∧ 1114111 < v ∧ X = ⟨#[239, 191, 189]⟩)
theorem chr_want (v : Int) (h0 : 0 ≤ v) : WantOf v (chrB v) := by
  have hk : ∀ b, okRune v = b → chrB v = if b then Utf8.encode v else Utf8.encode 65533 := fun b e => by unfold chrB; rw [e]
  have hi : ∀ a b, inR v a b = decide (a ≤ v ∧ v ≤ b) := fun a b => by rw [Bool.eq_iff_iff]; simp [inR]
  unfold WantOf
  by_cases h1 : 0 < v
  · by_cases h2 : v ≤ 1114111
    · by_cases h3 : v < 55296
      · exact .inl ⟨h1, h2, h3, hk true (by unfold okRune; rw [hi, hi]; simp; omega)⟩
      · by_cases h4 : 57343 < v
        · exact .inr (.inl ⟨h1, h2, by omega, h4, hk true (by unfold okRune; rw [hi, hi]; simp; omega)⟩)
        · exact .inr (.inr (.inr (.inl ⟨h1, h2, by omega, by omega, hk false (by unfold okRune; rw [hi, hi]; simp; omega)⟩)))
    · exact .inr (.inr (.inr (.inr ⟨h1, by omega, hk false (by unfold okRune; rw [hi, hi]; simp; omega)⟩)))
  · exact .inr (.inr (.inl ⟨by omega, hk false (by unfold okRune; rw [hi, hi]; simp; omega)⟩))

set_option maxHeartbeats 16000000 in
set_option maxRecDepth 100000 in
theorem entityNumbers_false (w : World) (hn : NamedIs w) (v : Int) (h0 : 0 ≤ v) (h1 : v ≤ 1114128) (a2 : ByteArray) (h30 : a2.size ≤ 30) (X : ByteArray) (hX : chrB v = X) (hw : WantOf v X) :
    Calls Tryd.prog 4 #[.int .i64 v, .bool false, .string a2] w fun e w' => e = .returned (.bool true) ∧ Below w.heap.size w w' := by
  have ca := alive3_any w hn
  have HN := Lib.hid hn
  have HX := Lib.hid hX
  clear hn hX
  rcases hw with ⟨g1, g2, g3, rfl⟩ | ⟨g1, g2, g3, g4, rfl⟩ | ⟨g1, rfl⟩ | ⟨g1, g2, g3, g4, rfl⟩ | ⟨g1, g2, rfl⟩
  all_goals
    go_enter Tryd.func4, Tryd.ntmps4
    go_wp2_with (go_at_call 8; refine ca.mono ?_; rintro e w1 ⟨rfl, b1⟩)
    go_loopw [10, 12] (fun d x wr => TellRel 10 7 v w d x wr) (fun d x _ => (intOf x).toNat + emp d)
    case atStart => exact ⟨_, v, rfl, rfl, h1, DigRel.start h0 (by omega), b1⟩
    case round =>
      obtain ⟨D, W, rfl, rfl, hW2, hD, hbw⟩ := hrel
      have hW1 := hD.1
      have hDl := hD.2.2.2.1
      rw [size_len] at hDl
      have HD := Lib.hid hD
      clear hD
      by_cases hgo : 0 < W ∨ ¬ 0 < D.size
      · have hr16 : W % 10 = ((W % 10).toNat : Int) := by omega
        have hr17 : (W % 10).toNat < 10 := by omega
        have HR0 := Lib.hid hr16
        generalize (W % 10).toNat = r at *
        have HDG := Lib.hid (dec_dig r hr17)
        have hcv := conv_byte wr (48 + (r : Int)) (by omega) (by omega)
        have HS := Lib.hid (HD.out.step (by omega) (by rcases hgo with h | h; exact .inl h; exact .inr (list_nil h)) (by omega) _ HDG.out.1 (by rw [HDG.out.2, HR0.out]))
        have hz1 := cons_size (48 + (r : Int)).toNat.toUInt8 D
        have HC := Lib.hid (cons_list (48 + (r : Int)).toNat.toUInt8 D)
        have hz2 : ((⟨#[(48 + (r : Int)).toNat.toUInt8]⟩ : ByteArray)).size ≤ 1 := Nat.le_refl _
        have HZ := Lib.hid hz1
        clear hz1
        generalize (48 + (r : Int)).toNat.toUInt8 = x at *
        by_cases hW : 0 < W
        · clear hgo
          go_wp2
          go_roundw
          case rel => exact ⟨_, W / 10, rfl, rfl, by omega, by rw [HC.out]; exact HS.out, hbw.alloc hbw.size _⟩
          case measure => simp only [intOf, emp]; rw [HZ.out, if_neg (by omega)]; omega
        · have hDe : ¬ 0 < D.size := by rcases hgo with h | h; exact absurd h hW; exact h
          have fe : D.toList = [] := list_nil' hDe
          have fe2 : D.toList.isEmpty = true := by rw [fe]; rfl
          clear hgo
          go_wp2
          go_roundw
          case rel => exact ⟨_, W / 10, rfl, rfl, by omega, by rw [HC.out]; exact HS.out, hbw.alloc hbw.size _⟩
          case measure => simp only [intOf, emp]; rw [HZ.out, if_neg (by omega), if_pos (by omega)]; omega
      · have hW : ¬ 0 < W := fun h => hgo (.inl h)
        have hDs : 0 < D.size := by rcases Nat.lt_or_ge 0 D.size with h | h; exact h; exact absurd (Or.inr (by omega)) hgo
        have fe := toList_ne hDs
        have fe2 := toList_empty hDs
        obtain rfl : W = 0 := by omega
        have HD10 := HD
        have HDs := Lib.hid hDs
        clear hgo
        go_wp2_with fail
        clear fe fe2 hW
        go_loopw [11, 13] (fun d x wr => TellRel 16 6 v w d x wr) (fun d x _ => (intOf x).toNat + emp d)
        case atStart => exact ⟨_, v, rfl, rfl, h1, DigRel.start h0 (by omega), hbw⟩
        case round =>
          obtain ⟨E, W, rfl, rfl, hW2, hE, hbw⟩ := hrel
          have hW1 := hE.1
          have hEl := hE.2.2.2.1
          rw [size_len] at hEl
          have HE := Lib.hid hE
          clear hE
          by_cases hgo : 0 < W ∨ ¬ 0 < E.size
          · have hr16 : W % 16 = ((W % 16).toNat : Int) := by omega
            have hr17 : (W % 16).toNat < 16 := by omega
            have HR0 := Lib.hid hr16
            generalize (W % 16).toNat = r at *
            have HDG := Lib.hid (hex_dig false r hr17)
            have hbd := hexI_bd false r hr17
            have hcv := fun wr : World => conv_byte wr (hexI false r) hbd.1 hbd.2
            have hix := hex_index_false r hr17
            have HS := Lib.hid (HE.out.step (by omega) (by rcases hgo with h | h; exact .inl h; exact .inr (list_nil h)) (by omega) _ HDG.out.1 (by rw [HDG.out.2, HR0.out]))
            have hz1 := cons_size (hexI false r).toNat.toUInt8 E
            have HC := Lib.hid (cons_list (hexI false r).toNat.toUInt8 E)
            have hz2 : ((⟨#[(hexI false r).toNat.toUInt8]⟩ : ByteArray)).size ≤ 1 := Nat.le_refl _
            have HZ := Lib.hid hz1
            clear hz1 hbd
            generalize (hexI false r).toNat.toUInt8 = x at *
            generalize hexI false r = y at *
            by_cases hW : 0 < W
            · clear hgo
              go_wp2
              go_roundw
              case rel => exact ⟨_, W / 16, rfl, rfl, by omega, by rw [HC.out]; exact HS.out, hbw.alloc hbw.size _⟩
              case measure => simp only [intOf, emp]; rw [HZ.out, if_neg (by omega)]; omega
            · have hDe : ¬ 0 < E.size := by rcases hgo with h | h; exact absurd h hW; exact h
              have fe : E.toList = [] := list_nil' hDe
              have fe2 : E.toList.isEmpty = true := by rw [fe]; rfl
              clear hgo
              go_wp2
              go_roundw
              case rel => exact ⟨_, W / 16, rfl, rfl, by omega, by rw [HC.out]; exact HS.out, hbw.alloc hbw.size _⟩
              case measure => simp only [intOf, emp]; rw [HZ.out, if_neg (by omega), if_pos (by omega)]; omega
          · have hW : ¬ 0 < W := fun h => hgo (.inl h)
            have hEs : 0 < E.size := by rcases Nat.lt_or_ge 0 E.size with h | h; exact h; exact absurd (Or.inr (by omega)) hgo
            have fe := toList_ne hEs
            have fe2 := toList_empty hEs
            obtain rfl : W = 0 := by omega
            clear hgo
            have s1 : ((⟨#[38, 35]⟩ : ByteArray) ++ D).size ≤ 20 := by rw [ByteArray.size_append]; show 2 + _ ≤ _; omega
            have s2 : (((⟨#[38, 35]⟩ : ByteArray) ++ D) ++ (⟨#[59]⟩ : ByteArray)).size ≤ 40 := by rw [ByteArray.size_append]; show _ + 1 ≤ _; omega
            have s3 : (((⟨#[38, 35]⟩ : ByteArray) ++ D) ++ (⟨#[59]⟩ : ByteArray) ++ a2).size ≤ 100 := by rw [ByteArray.size_append]; omega
            have s4 : (((⟨#[38, 35]⟩ : ByteArray) ++ (⟨#[120]⟩ : ByteArray)) ++ E).size ≤ 20 := by rw [ByteArray.size_append]; show 3 + _ ≤ _; omega
            have s5 : ((((⟨#[38, 35]⟩ : ByteArray) ++ (⟨#[120]⟩ : ByteArray)) ++ E) ++ (⟨#[59]⟩ : ByteArray)).size ≤ 40 := by rw [ByteArray.size_append]; show _ + 1 ≤ _; omega
            have s6 : ((((⟨#[38, 35]⟩ : ByteArray) ++ (⟨#[120]⟩ : ByteArray)) ++ E) ++ (⟨#[59]⟩ : ByteArray) ++ a2).size ≤ 100 := by rw [ByteArray.size_append]; omega
            have cA := fun w1 hn => at_any (((⟨#[38, 35]⟩ : ByteArray) ++ D) ++ (⟨#[59]⟩ : ByteArray) ++ a2) w1 hn (by omega)
            have cB := fun w1 hn => at_any ((((⟨#[38, 35]⟩ : ByteArray) ++ (⟨#[120]⟩ : ByteArray)) ++ E) ++ (⟨#[59]⟩ : ByteArray) ++ a2) w1 hn (by omega)
            rw [sumA, at_dec HD10.out (by intro e; have := size_len D; rw [e] at this; have := HDs.out; simp at *; omega), size_len, HX.out] at cA
            rw [sumB, at_hex (by decide) HE.out (by intro e; have := size_len E; rw [e] at this; simp at *; omega), size_len, HX.out] at cB
            clear s3 s6
            go_wp2_with fail
            refine (cA _ (HN.out.below hbw)).mono ?_
            rintro e w2 ⟨rfl, b2⟩
            have q2 := hbw.then b2
            go_wp2_with fail
            refine (cB _ (HN.out.below q2)).mono ?_
            rintro e w3 ⟨rfl, b3⟩
            have q3 := q2.then b3
            go_wp2
            go_ret
            exact ⟨rfl, q3⟩

end Go.Proofs.YtggfllbaomfjhaaDoor
