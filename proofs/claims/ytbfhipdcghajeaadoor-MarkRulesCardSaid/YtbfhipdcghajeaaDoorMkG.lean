/-
  MarkRules: three or more of one sign, with whatever blanks, are a break; with another sign they are none; an item never is one; the law's walk.
-/
import Derived.Test.YtbfhipdcghajeaaDoorMkE
import Derived.Laws.BitsLemmas
namespace Go.Proofs.YtbfhipdcghajeaaDoor
open Go.RowKit
set_option linter.unusedSimpArgs false
set_option linter.unusedVariables false
set_option maxRecDepth 100000

theorem i64_and3 (n : Int) : bits .and .i64 n 3 = n % 4 := by
  have h3 : (BitVec.ofInt 64 3).toNat = 2 ^ 2 - 1 := by decide
  have key : (BitVec.ofInt 64 n &&& BitVec.ofInt 64 3).toNat = (n % ((2 ^ 64 : Nat) : Int)).toNat % 2 ^ 2 := by
    rw [BitVec.toNat_and, BitVec.toNat_ofInt, h3, Nat.and_two_pow_sub_one_eq_mod]
  show IntKind.i64.wrap ((BitVec.ofInt 64 n &&& BitVec.ofInt 64 3).toNat : Nat) = n % 4
  rw [key, IntKind.wrap_i64]
  omega
theorem and3_cases (n : Int) : bits .and .i64 n 3 = 0 ∨ bits .and .i64 n 3 = 1 ∨ bits .and .i64 n 3 = 2 ∨ bits .and .i64 n 3 = 3 := by
  rw [i64_and3]; omega
/-- A row of one sign, with blanks behind each. -/
def RowP (c : UInt8) (i : Nat) (P : List UInt8) : Prop := P.all (fun b => b == c || isGap b) = true ∧ P.count c = i ∧ (P = [] ∨ ∃ t, P = c :: t) ∧ (i = 0 → P = [])
theorem rowP_nil (c : UInt8) : RowP c 0 [] := ⟨rfl, rfl, Or.inl rfl, fun _ => rfl⟩
theorem RowP.more {c : UInt8} {i : Nat} {P : List UInt8} (h : RowP c i P) {g : List UInt8} (hg : g.all isGap = true) (hc : isGap c = false) : RowP c (i + 1) (P ++ [c] ++ g) := by
  obtain ⟨h1, h2, h3, h4⟩ := h
  have hgc : g.count c = 0 := by
    rw [List.count_eq_zero]
    intro hm
    rw [List.all_eq_true.1 hg c hm] at hc
    cases hc
  refine ⟨?_, ?_, ?_, fun h => absurd h (by omega)⟩
  · rw [List.all_append, List.all_append, h1]
    simp only [List.all_cons, beq_self_eq_true, Bool.true_or, List.all_nil, Bool.and_true, Bool.true_and]
    rw [List.all_eq_true] at hg ⊢
    intro b hb
    rw [hg b hb, Bool.or_true]
  · rw [List.count_append, List.count_append, h2, hgc]
    simp
  · rcases h3 with rfl | ⟨t, rfl⟩
    · exact Or.inr ⟨g, rfl⟩
    · exact Or.inr ⟨t ++ [c] ++ g, by simp⟩
theorem RowP.rule {c : UInt8} {n : Nat} {P : List UInt8} (h : RowP c n P) (hr : isRS c = true) (hc : isGap c = false) : mkRule P = decide (3 ≤ n) := by
  obtain ⟨h1, h2, h3, h4⟩ := h
  rcases h3 with rfl | ⟨t, rfl⟩
  · simp at h2
    subst h2
    rfl
  · unfold mkRule
    rw [mkBegin_here hc, ruleH_rs hr, ruleH_all c 1 t hc]
    rw [List.all_cons, Bool.and_eq_true] at h1
    rw [h1.2, Bool.true_and, ← h2, List.count_cons_self, Nat.add_comm]
theorem RowP.other {c o : UInt8} {n : Nat} {P : List UInt8} (h : RowP c n P) (hr : isRS c = true) (hc : isGap c = false) (ho : o ≠ c) (hg : isGap o = false) : mkRule (P ++ [o]) = false := by
  obtain ⟨h1, h2, h3, h4⟩ := h
  rcases h3 with rfl | ⟨t, rfl⟩
  · rw [List.nil_append]
    unfold mkRule
    rw [mkBegin_here hg]
    cases hro : isRS o with
    | true => rw [ruleH_rs hro]; rfl
    | false => exact ruleH_no (fun _ => hro) (fun h => by cases h) hg
  · unfold mkRule
    rw [List.cons_append, mkBegin_here hc, ruleH_rs hr, ruleH_all c 1 _ hc, List.all_append]
    have : (o == c) = false := by simpa using ho
    simp [this, hg]
theorem item_no {l : List UInt8} (h : mkRule l = true) : mkItem l = none := by
  unfold mkItem
  dsimp only
  rw [if_pos (Or.inr (Or.inr h))]
theorem itemV_shape (x : Option (UInt8 × Int × Nat × List UInt8)) : ∃ (c : Int) (n k : Int) (t : ByteArray) (ok : Bool), mkItemV x = .tuple #[.int .u8 c, .int .i64 n, .int .i64 k, .string t, .bool ok] := by
  cases x with
  | none => exact ⟨_, _, _, _, _, rfl⟩
  | some x => exact ⟨_, _, _, _, _, rfl⟩
theorem tmod_bd3 (a : Int) : -3 < a.tmod 3 ∧ a.tmod 3 < 3 := by
  rcases Int.le_total 0 a with h | h
  · rw [Int.tmod_eq_emod_of_nonneg h]; omega
  · have e := Int.neg_tmod (a := -a) (b := 3)
    rw [Int.neg_neg, Int.tmod_eq_emod_of_nonneg (a := -a) (by omega)] at e
    omega
theorem three_index (a : Int) : (wrap64 (a.tmod 3 + 3)).tmod 3 = 0 ∨ (wrap64 (a.tmod 3 + 3)).tmod 3 = 1 ∨ (wrap64 (a.tmod 3 + 3)).tmod 3 = 2 := by
  have hb := tmod_bd3 a
  have e : wrap64 (a.tmod 3 + 3) = a.tmod 3 + 3 := by unfold wrap64; omega
  rw [e, Int.tmod_eq_emod_of_nonneg (by omega)]
  omega
theorem conv_95 (w : World) :
    (convert 37 9 (.slice (some ⟨w.heap.size, 0, none⟩) 1 1)).run Tryd.prog (w.alloc (.cells #[.int .u8 95] 5)) = .ok (.string ⟨#[95]⟩) (w.alloc (.cells #[.int .u8 95] 5)) := conv_byte w 95 (by decide) (by decide)
theorem conv_42 (w : World) :
    (convert 37 9 (.slice (some ⟨w.heap.size, 0, none⟩) 1 1)).run Tryd.prog (w.alloc (.cells #[.int .u8 42] 5)) = .ok (.string ⟨#[42]⟩) (w.alloc (.cells #[.int .u8 42] 5)) := conv_byte w 42 (by decide) (by decide)
def RwRel (c : UInt8) (n : Nat) (w : World) (zs zi : Value) (wr : World) : Prop := ∃ (i : Nat) (S : ByteArray), zi = .int .i64 i ∧ zs = .string S ∧ i ≤ n ∧ RowP c i S.data.toList ∧ S.size ≤ 3 * i ∧ Below w.heap.size w wr
theorem rw_more {S : ByteArray} {c : UInt8} {i : Nat} (h : RowP c i S.data.toList) (hc : isGap c = false) (g : List UInt8) (hg : g.all isGap = true) : RowP c (i + 1) ((S ++ (⟨#[c]⟩ : ByteArray)) ++ (⟨g.toArray⟩ : ByteArray)).data.toList := by
  rw [cat_one _ g, cat_one S [c]]
  exact h.more hg hc
theorem rw_one {S : ByteArray} {c : UInt8} {i : Nat} (h : RowP c i S.data.toList) (hc : isGap c = false) : RowP c (i + 1) (S ++ (⟨#[c]⟩ : ByteArray)).data.toList := by
  rw [cat_one S [c]]
  have := h.more (g := []) rfl hc
  rw [List.append_nil] at this
  exact this
theorem gaps_mem (zs : List Int) (k : Nat) (h : k < zs.length) : ∃ x : Int, zs[k]? = some x := ⟨zs[k], by simp [h]⟩

set_option maxHeartbeats 16000000 in
theorem markRules_dash (w : World) (kk : Int) (kwf : -9223372036854775808 ≤ kk ∧ kk ≤ 9223372036854775807) (hidx : (wrap64 (kk.tmod 3 + 3)).tmod 3 = 0) (n : Nat) (n12 : n ≤ 12) (A : Option Addr) (cap : Nat) (zs : List Int) (hz12 : zs.length ≤ 12) (hrow : RowOf w A cap (zs.map (Value.int .i64))) (v : Int) (v0 : 0 ≤ v) (v1 : v ≤ 255) :
    Calls Tryd.prog 5 #[.int .i64 kk, .int .i64 n, .slice A zs.length cap, .int .u8 v] w fun e w' => e = .returned (.bool true) ∧ Below w.heap.size w w' := by
  obtain ⟨k0, k1⟩ := kwf
  have hcap := hrow.1
  have hcap2 := hrow.2.1
  rw [List.length_map] at hcap
  unfold maxLen at hcap2
  have HR := Lib.hid hrow
  have HIX := Lib.hid hidx
  clear hrow hidx
  go_enter Tryd.func5, Tryd.ntmps5
  go_wp2_with fail
  refine (alive8_any _).mono ?_
  rintro e w1 ⟨rfl, b1⟩
  have hidx := HIX.out
  have hch : ((⟨#[45, 42, 95]⟩ : ByteArray)[0]'(by decide)).toNat = 45 := rfl
  go_wp2_with fail
  clear hidx hch
  have HR1 := Lib.hid (HR.out.below b1)
  go_loopw [10, 11] (fun zs zi wr => RwRel 45 n w1 zs zi wr) (fun _ i _ => n - (intOf i).toNat)
  case atStart => exact ⟨0, ⟨#[]⟩, rfl, rfl, Nat.zero_le _, rowP_nil _, Nat.le_refl _, Below.refl _ _⟩
  case round =>
    obtain ⟨i, S, rfl, rfl, hi, hP, hsz, hbw⟩ := hrel
    have hcv := conv_45 wr
    have k0 := fun W => run_string_add_sum (P := Tryd.prog) W S (⟨#[45]⟩ : ByteArray) (by show _ + 1 ≤ _; omega)
    have e1 : (S ++ (⟨#[45]⟩ : ByteArray)).data.toList = S.data.toList ++ [45] := cat_one S [45]
    have z1 : (S ++ (⟨#[45]⟩ : ByteArray)).size = S.size + 1 := by rw [ByteArray.size_append]; rfl
    have HP := Lib.hid hP
    have HE1 := Lib.hid e1
    clear hP e1
    by_cases hp : i < n
    · by_cases hg : i < zs.length
      · obtain ⟨b, off, rfl, hblt, hcell⟩ := (HR1.out.below hbw).at (by
          intro e
          have := congrArg List.length e
          rw [List.length_map, List.length_nil] at this
          omega)
        have hci := hcell i (by rw [List.length_map]; exact hg)
        rw [List.getElem_map] at hci
        generalize zs[i] = x at *
        clear hcell
        have q1 : ∀ o, (wr.alloc o).cell? ⟨b, off + i, none⟩ = some (.int .i64 x) := fun o => ((Below.refl _ wr).alloc (Nat.le_refl _) o).cell (p := ⟨b, off + i, none⟩) hblt |>.trans hci
        have q2 : ∀ o o2, ((wr.alloc o).alloc o2).cell? ⟨b, off + i, none⟩ = some (.int .i64 x) := fun o o2 => ((Below.refl _ (wr.alloc o)).alloc (Nat.le_refl _) o2).cell (p := ⟨b, off + i, none⟩) (by rw [alloc_size]; show b < _; omega) |>.trans (q1 o)
        have k1 := fun W => run_string_add_sum (P := Tryd.prog) W (S ++ (⟨#[45]⟩ : ByteArray)) (⟨#[]⟩ : ByteArray) (by show _ + 0 ≤ _; omega)
        have k2 := fun W => run_string_add_sum (P := Tryd.prog) W (S ++ (⟨#[45]⟩ : ByteArray)) (⟨#[32]⟩ : ByteArray) (by show _ + 1 ≤ _; omega)
        have k3 := fun W => run_string_add_sum (P := Tryd.prog) W (S ++ (⟨#[45]⟩ : ByteArray)) (⟨#[32, 32]⟩ : ByteArray) (by show _ + 2 ≤ _; omega)
        have k4 := fun W => run_string_add_sum (P := Tryd.prog) W (S ++ (⟨#[45]⟩ : ByteArray)) (⟨#[9]⟩ : ByteArray) (by show _ + 1 ≤ _; omega)
        have z2 : ∀ g : List UInt8, ((S ++ (⟨#[45]⟩ : ByteArray)) ++ (⟨g.toArray⟩ : ByteArray)).size = S.size + 1 + g.length := fun g => by rw [ByteArray.size_append, z1, str_size g]
        have HZ2 := Lib.hid z2
        clear z2
        rcases and3_cases x with h3 | h3 | h3 | h3
        · go_wp2
          exact ⟨⟨i + 1, _, by go_num, rfl, hp, rw_more HP.out (by decide) [] rfl, by rw [HZ2.out []]; simp only [List.length_cons, List.length_nil]; omega, below_lit (below_lit hbw _) _⟩, by simp [intOf]; omega⟩
        · go_wp2
          exact ⟨⟨i + 1, _, by go_num, rfl, hp, rw_more HP.out (by decide) [32] rfl, by rw [HZ2.out [32]]; simp only [List.length_cons, List.length_nil]; omega, below_lit (below_lit hbw _) _⟩, by simp [intOf]; omega⟩
        · go_wp2
          exact ⟨⟨i + 1, _, by go_num, rfl, hp, rw_more HP.out (by decide) [32, 32] rfl, by rw [HZ2.out [32, 32]]; simp only [List.length_cons, List.length_nil]; omega, below_lit (below_lit hbw _) _⟩, by simp [intOf]; omega⟩
        · go_wp2
          exact ⟨⟨i + 1, _, by go_num, rfl, hp, rw_more HP.out (by decide) [9] rfl, by rw [HZ2.out [9]]; simp only [List.length_cons, List.length_nil]; omega, below_lit (below_lit hbw _) _⟩, by simp [intOf]; omega⟩
      · have hg2 : ((zs.length : Nat) : Int) ≤ (i : Int) := by omega
        go_wp2
        exact ⟨⟨i + 1, _, by go_num, rfl, hp, rw_one HP.out (by decide), by rw [z1]; omega, below_lit hbw _⟩, by simp [intOf]; omega⟩
    · obtain rfl : i = n := by omega
      have HBW := Lib.hid (b1.then hbw)
      have HK := HP.out
      have hbo := byte_of v v0 v1
      have c1 := fun w1 => mkRule_any S w1 (by omega)
      have c2 := fun w1 => mkItem_any S w1 (by omega)
      have c3 := fun w1 => mkRule_any (S ++ (⟨#[v.toNat.toUInt8]⟩ : ByteArray)) w1 (by rw [ByteArray.size_append]; show _ + 1 ≤ _; omega)
      have k3 := fun W => run_string_add_sum (P := Tryd.prog) W S (⟨#[v.toNat.toUInt8]⟩ : ByteArray) (by show _ + 1 ≤ _; omega)
      have HCB := Lib.hid (fun W => conv_byte W v v0 v1)
      rw [HK.rule (by decide) (by decide)] at c1
      rw [cat_one S [v.toNat.toUInt8]] at c3
      have hcases : (3 ≤ i ∧ mkRule S.data.toList = true) ∨ ¬ 3 ≤ i := by
        by_cases h : 3 ≤ i
        · exact Or.inl ⟨h, by rw [HK.rule (by decide) (by decide)]; simpa using h⟩
        · exact Or.inr h
      have hor : v = 45 ∨ v = 32 ∨ v = 9 ∨ (v ≠ 45 ∧ v ≠ 32 ∧ v ≠ 9) := by omega
      have hno : (v ≠ 45 ∧ v ≠ 32 ∧ v ≠ 9) → mkRule (S.data.toList ++ [v.toNat.toUInt8]) = false := by
        rintro ⟨h1, h2, h3⟩
        have hne : ∀ c : UInt8, v ≠ (c.toNat : Int) → v.toNat.toUInt8 ≠ c := fun c hc e => hc (by rw [← e]; exact hbo.symm)
        exact HK.other (by decide) (by decide) (hne 45 h1) (by simp [isGap, hne 32 h2, hne 9 h3])
      have HNO := Lib.hid hno
      have HC3 := Lib.hid c3
      clear hcv k0 z1 HE1 hbw hbo c3 hno HK
      rcases hcases with ⟨h3, hru⟩ | h3
      · rw [item_no hru] at c2
        unfold mkItemV at c2
        dsimp only at c2
        rw [decide_eq_true h3] at c1
        have f3 : decide ((3 : Int) ≤ (i : Int)) = true := by simp; omega
        have hgt : 3 ≤ i := h3
        clear hru h3
        rcases hor with hv | hv | hv | ⟨hv1, hv2, hv3⟩
        · have f1 : (v == 45) = true := by simp [hv]
          clear hv HC3
          go_wp2_with fail
          refine (c1 _).mono ?_
          rintro e w2 ⟨rfl, b2⟩
          have q2 := HBW.out.then b2
          go_wp2_with fail
          refine (c2 _).mono ?_
          rintro e w3 ⟨rfl, b3⟩
          have q3 := q2.then b3
          go_wp2
          go_ret
          exact ⟨rfl, q3⟩
        · have f1 : (v == 45) = false := by simp [hv]
          have f2 : (v == 32) = true := by simp [hv]
          clear hv HC3
          go_wp2_with fail
          refine (c1 _).mono ?_
          rintro e w2 ⟨rfl, b2⟩
          have q2 := HBW.out.then b2
          go_wp2_with fail
          refine (c2 _).mono ?_
          rintro e w3 ⟨rfl, b3⟩
          have q3 := q2.then b3
          go_wp2
          go_ret
          exact ⟨rfl, q3⟩
        · have f1 : (v == 45) = false := by simp [hv]
          have f2 : (v == 32) = false := by simp [hv]
          have f4 : (v == 9) = true := by simp [hv]
          clear hv HC3
          go_wp2_with fail
          refine (c1 _).mono ?_
          rintro e w2 ⟨rfl, b2⟩
          have q2 := HBW.out.then b2
          go_wp2_with fail
          refine (c2 _).mono ?_
          rintro e w3 ⟨rfl, b3⟩
          have q3 := q2.then b3
          go_wp2
          go_ret
          exact ⟨rfl, q3⟩
        · have f1 : (v == 45) = false := by simp [hv1]
          have f2 : (v == 32) = false := by simp [hv2]
          have f4 : (v == 9) = false := by simp [hv3]
          have c3 := HC3.out
          rw [HNO.out ⟨hv1, hv2, hv3⟩] at c3
          have HC4 := Lib.hid c3
          clear hv1 hv2 hv3 HC3 c3
          go_wp2_with fail
          refine (c1 _).mono ?_
          rintro e w2 ⟨rfl, b2⟩
          have q2 := HBW.out.then b2
          go_wp2_with fail
          refine (c2 _).mono ?_
          rintro e w3 ⟨rfl, b3⟩
          have q3 := q2.then b3
          have hcb := HCB.out
          go_wp2_with fail
          refine (HC4.out _).mono ?_
          rintro e w4 ⟨rfl, b4⟩
          go_wp2
          go_ret
          exact ⟨rfl, (below_lit q3 _).then b4⟩
      · obtain ⟨u1, u2, u3, t4, ok, hsh⟩ := itemV_shape (mkItem S.data.toList)
        rw [hsh] at c2
        rw [decide_eq_false h3] at c1
        have f3 : decide ((3 : Int) ≤ (i : Int)) = false := by simp; omega
        have hgt : i < 3 := by omega
        clear hsh h3
        cases ok
        all_goals
          rcases hor with hv | hv | hv | ⟨hv1, hv2, hv3⟩
          · have f1 : (v == 45) = true := by simp [hv]
            clear hv HC3
            go_wp2_with fail
            refine (c1 _).mono ?_
            rintro e w2 ⟨rfl, b2⟩
            have q2 := HBW.out.then b2
            go_wp2_with fail
            refine (c2 _).mono ?_
            rintro e w3 ⟨rfl, b3⟩
            have q3 := q2.then b3
            go_wp2
            go_ret
            exact ⟨rfl, q3⟩
          · have f1 : (v == 45) = false := by simp [hv]
            have f2 : (v == 32) = true := by simp [hv]
            clear hv HC3
            go_wp2_with fail
            refine (c1 _).mono ?_
            rintro e w2 ⟨rfl, b2⟩
            have q2 := HBW.out.then b2
            go_wp2_with fail
            refine (c2 _).mono ?_
            rintro e w3 ⟨rfl, b3⟩
            have q3 := q2.then b3
            go_wp2
            go_ret
            exact ⟨rfl, q3⟩
          · have f1 : (v == 45) = false := by simp [hv]
            have f2 : (v == 32) = false := by simp [hv]
            have f4 : (v == 9) = true := by simp [hv]
            clear hv HC3
            go_wp2_with fail
            refine (c1 _).mono ?_
            rintro e w2 ⟨rfl, b2⟩
            have q2 := HBW.out.then b2
            go_wp2_with fail
            refine (c2 _).mono ?_
            rintro e w3 ⟨rfl, b3⟩
            have q3 := q2.then b3
            go_wp2
            go_ret
            exact ⟨rfl, q3⟩
          · have f1 : (v == 45) = false := by simp [hv1]
            have f2 : (v == 32) = false := by simp [hv2]
            have f4 : (v == 9) = false := by simp [hv3]
            have c3 := HC3.out
            rw [HNO.out ⟨hv1, hv2, hv3⟩] at c3
            have HC4 := Lib.hid c3
            clear hv1 hv2 hv3 HC3 c3
            go_wp2_with fail
            refine (c1 _).mono ?_
            rintro e w2 ⟨rfl, b2⟩
            have q2 := HBW.out.then b2
            go_wp2_with fail
            refine (c2 _).mono ?_
            rintro e w3 ⟨rfl, b3⟩
            have q3 := q2.then b3
            have hcb := HCB.out
            go_wp2_with fail
            refine (HC4.out _).mono ?_
            rintro e w4 ⟨rfl, b4⟩
            go_wp2
            go_ret
            exact ⟨rfl, (below_lit q3 _).then b4⟩

set_option maxHeartbeats 16000000 in
theorem markRules_star (w : World) (kk : Int) (kwf : -9223372036854775808 ≤ kk ∧ kk ≤ 9223372036854775807) (hidx : (wrap64 (kk.tmod 3 + 3)).tmod 3 = 1) (n : Nat) (n12 : n ≤ 12) (A : Option Addr) (cap : Nat) (zs : List Int) (hz12 : zs.length ≤ 12) (hrow : RowOf w A cap (zs.map (Value.int .i64))) (v : Int) (v0 : 0 ≤ v) (v1 : v ≤ 255) :
    Calls Tryd.prog 5 #[.int .i64 kk, .int .i64 n, .slice A zs.length cap, .int .u8 v] w fun e w' => e = .returned (.bool true) ∧ Below w.heap.size w w' := by
  obtain ⟨k0, k1⟩ := kwf
  have hcap := hrow.1
  have hcap2 := hrow.2.1
  rw [List.length_map] at hcap
  unfold maxLen at hcap2
  have HR := Lib.hid hrow
  have HIX := Lib.hid hidx
  clear hrow hidx
  go_enter Tryd.func5, Tryd.ntmps5
  go_wp2_with fail
  refine (alive8_any _).mono ?_
  rintro e w1 ⟨rfl, b1⟩
  have hidx := HIX.out
  have hch : ((⟨#[45, 42, 95]⟩ : ByteArray)[1]'(by decide)).toNat = 42 := rfl
  go_wp2_with fail
  clear hidx hch
  have HR1 := Lib.hid (HR.out.below b1)
  go_loopw [10, 11] (fun zs zi wr => RwRel 42 n w1 zs zi wr) (fun _ i _ => n - (intOf i).toNat)
  case atStart => exact ⟨0, ⟨#[]⟩, rfl, rfl, Nat.zero_le _, rowP_nil _, Nat.le_refl _, Below.refl _ _⟩
  case round =>
    obtain ⟨i, S, rfl, rfl, hi, hP, hsz, hbw⟩ := hrel
    have hcv := conv_42 wr
    have k0 := fun W => run_string_add_sum (P := Tryd.prog) W S (⟨#[42]⟩ : ByteArray) (by show _ + 1 ≤ _; omega)
    have e1 : (S ++ (⟨#[42]⟩ : ByteArray)).data.toList = S.data.toList ++ [42] := cat_one S [42]
    have z1 : (S ++ (⟨#[42]⟩ : ByteArray)).size = S.size + 1 := by rw [ByteArray.size_append]; rfl
    have HP := Lib.hid hP
    have HE1 := Lib.hid e1
    clear hP e1
    by_cases hp : i < n
    · by_cases hg : i < zs.length
      · obtain ⟨b, off, rfl, hblt, hcell⟩ := (HR1.out.below hbw).at (by
          intro e
          have := congrArg List.length e
          rw [List.length_map, List.length_nil] at this
          omega)
        have hci := hcell i (by rw [List.length_map]; exact hg)
        rw [List.getElem_map] at hci
        generalize zs[i] = x at *
        clear hcell
        have q1 : ∀ o, (wr.alloc o).cell? ⟨b, off + i, none⟩ = some (.int .i64 x) := fun o => ((Below.refl _ wr).alloc (Nat.le_refl _) o).cell (p := ⟨b, off + i, none⟩) hblt |>.trans hci
        have q2 : ∀ o o2, ((wr.alloc o).alloc o2).cell? ⟨b, off + i, none⟩ = some (.int .i64 x) := fun o o2 => ((Below.refl _ (wr.alloc o)).alloc (Nat.le_refl _) o2).cell (p := ⟨b, off + i, none⟩) (by rw [alloc_size]; show b < _; omega) |>.trans (q1 o)
        have k1 := fun W => run_string_add_sum (P := Tryd.prog) W (S ++ (⟨#[42]⟩ : ByteArray)) (⟨#[]⟩ : ByteArray) (by show _ + 0 ≤ _; omega)
        have k2 := fun W => run_string_add_sum (P := Tryd.prog) W (S ++ (⟨#[42]⟩ : ByteArray)) (⟨#[32]⟩ : ByteArray) (by show _ + 1 ≤ _; omega)
        have k3 := fun W => run_string_add_sum (P := Tryd.prog) W (S ++ (⟨#[42]⟩ : ByteArray)) (⟨#[32, 32]⟩ : ByteArray) (by show _ + 2 ≤ _; omega)
        have k4 := fun W => run_string_add_sum (P := Tryd.prog) W (S ++ (⟨#[42]⟩ : ByteArray)) (⟨#[9]⟩ : ByteArray) (by show _ + 1 ≤ _; omega)
        have z2 : ∀ g : List UInt8, ((S ++ (⟨#[42]⟩ : ByteArray)) ++ (⟨g.toArray⟩ : ByteArray)).size = S.size + 1 + g.length := fun g => by rw [ByteArray.size_append, z1, str_size g]
        have HZ2 := Lib.hid z2
        clear z2
        rcases and3_cases x with h3 | h3 | h3 | h3
        · go_wp2
          exact ⟨⟨i + 1, _, by go_num, rfl, hp, rw_more HP.out (by decide) [] rfl, by rw [HZ2.out []]; simp only [List.length_cons, List.length_nil]; omega, below_lit (below_lit hbw _) _⟩, by simp [intOf]; omega⟩
        · go_wp2
          exact ⟨⟨i + 1, _, by go_num, rfl, hp, rw_more HP.out (by decide) [32] rfl, by rw [HZ2.out [32]]; simp only [List.length_cons, List.length_nil]; omega, below_lit (below_lit hbw _) _⟩, by simp [intOf]; omega⟩
        · go_wp2
          exact ⟨⟨i + 1, _, by go_num, rfl, hp, rw_more HP.out (by decide) [32, 32] rfl, by rw [HZ2.out [32, 32]]; simp only [List.length_cons, List.length_nil]; omega, below_lit (below_lit hbw _) _⟩, by simp [intOf]; omega⟩
        · go_wp2
          exact ⟨⟨i + 1, _, by go_num, rfl, hp, rw_more HP.out (by decide) [9] rfl, by rw [HZ2.out [9]]; simp only [List.length_cons, List.length_nil]; omega, below_lit (below_lit hbw _) _⟩, by simp [intOf]; omega⟩
      · have hg2 : ((zs.length : Nat) : Int) ≤ (i : Int) := by omega
        go_wp2
        exact ⟨⟨i + 1, _, by go_num, rfl, hp, rw_one HP.out (by decide), by rw [z1]; omega, below_lit hbw _⟩, by simp [intOf]; omega⟩
    · obtain rfl : i = n := by omega
      have HBW := Lib.hid (b1.then hbw)
      have HK := HP.out
      have hbo := byte_of v v0 v1
      have c1 := fun w1 => mkRule_any S w1 (by omega)
      have c2 := fun w1 => mkItem_any S w1 (by omega)
      have c3 := fun w1 => mkRule_any (S ++ (⟨#[v.toNat.toUInt8]⟩ : ByteArray)) w1 (by rw [ByteArray.size_append]; show _ + 1 ≤ _; omega)
      have k3 := fun W => run_string_add_sum (P := Tryd.prog) W S (⟨#[v.toNat.toUInt8]⟩ : ByteArray) (by show _ + 1 ≤ _; omega)
      have HCB := Lib.hid (fun W => conv_byte W v v0 v1)
      rw [HK.rule (by decide) (by decide)] at c1
      rw [cat_one S [v.toNat.toUInt8]] at c3
      have hcases : (3 ≤ i ∧ mkRule S.data.toList = true) ∨ ¬ 3 ≤ i := by
        by_cases h : 3 ≤ i
        · exact Or.inl ⟨h, by rw [HK.rule (by decide) (by decide)]; simpa using h⟩
        · exact Or.inr h
      have hor : v = 42 ∨ v = 32 ∨ v = 9 ∨ (v ≠ 42 ∧ v ≠ 32 ∧ v ≠ 9) := by omega
      have hno : (v ≠ 42 ∧ v ≠ 32 ∧ v ≠ 9) → mkRule (S.data.toList ++ [v.toNat.toUInt8]) = false := by
        rintro ⟨h1, h2, h3⟩
        have hne : ∀ c : UInt8, v ≠ (c.toNat : Int) → v.toNat.toUInt8 ≠ c := fun c hc e => hc (by rw [← e]; exact hbo.symm)
        exact HK.other (by decide) (by decide) (hne 42 h1) (by simp [isGap, hne 32 h2, hne 9 h3])
      have HNO := Lib.hid hno
      have HC3 := Lib.hid c3
      clear hcv k0 z1 HE1 hbw hbo c3 hno HK
      rcases hcases with ⟨h3, hru⟩ | h3
      · rw [item_no hru] at c2
        unfold mkItemV at c2
        dsimp only at c2
        rw [decide_eq_true h3] at c1
        have f3 : decide ((3 : Int) ≤ (i : Int)) = true := by simp; omega
        have hgt : 3 ≤ i := h3
        clear hru h3
        rcases hor with hv | hv | hv | ⟨hv1, hv2, hv3⟩
        · have f1 : (v == 42) = true := by simp [hv]
          clear hv HC3
          go_wp2_with fail
          refine (c1 _).mono ?_
          rintro e w2 ⟨rfl, b2⟩
          have q2 := HBW.out.then b2
          go_wp2_with fail
          refine (c2 _).mono ?_
          rintro e w3 ⟨rfl, b3⟩
          have q3 := q2.then b3
          go_wp2
          go_ret
          exact ⟨rfl, q3⟩
        · have f1 : (v == 42) = false := by simp [hv]
          have f2 : (v == 32) = true := by simp [hv]
          clear hv HC3
          go_wp2_with fail
          refine (c1 _).mono ?_
          rintro e w2 ⟨rfl, b2⟩
          have q2 := HBW.out.then b2
          go_wp2_with fail
          refine (c2 _).mono ?_
          rintro e w3 ⟨rfl, b3⟩
          have q3 := q2.then b3
          go_wp2
          go_ret
          exact ⟨rfl, q3⟩
        · have f1 : (v == 42) = false := by simp [hv]
          have f2 : (v == 32) = false := by simp [hv]
          have f4 : (v == 9) = true := by simp [hv]
          clear hv HC3
          go_wp2_with fail
          refine (c1 _).mono ?_
          rintro e w2 ⟨rfl, b2⟩
          have q2 := HBW.out.then b2
          go_wp2_with fail
          refine (c2 _).mono ?_
          rintro e w3 ⟨rfl, b3⟩
          have q3 := q2.then b3
          go_wp2
          go_ret
          exact ⟨rfl, q3⟩
        · have f1 : (v == 42) = false := by simp [hv1]
          have f2 : (v == 32) = false := by simp [hv2]
          have f4 : (v == 9) = false := by simp [hv3]
          have c3 := HC3.out
          rw [HNO.out ⟨hv1, hv2, hv3⟩] at c3
          have HC4 := Lib.hid c3
          clear hv1 hv2 hv3 HC3 c3
          go_wp2_with fail
          refine (c1 _).mono ?_
          rintro e w2 ⟨rfl, b2⟩
          have q2 := HBW.out.then b2
          go_wp2_with fail
          refine (c2 _).mono ?_
          rintro e w3 ⟨rfl, b3⟩
          have q3 := q2.then b3
          have hcb := HCB.out
          go_wp2_with fail
          refine (HC4.out _).mono ?_
          rintro e w4 ⟨rfl, b4⟩
          go_wp2
          go_ret
          exact ⟨rfl, (below_lit q3 _).then b4⟩
      · obtain ⟨u1, u2, u3, t4, ok, hsh⟩ := itemV_shape (mkItem S.data.toList)
        rw [hsh] at c2
        rw [decide_eq_false h3] at c1
        have f3 : decide ((3 : Int) ≤ (i : Int)) = false := by simp; omega
        have hgt : i < 3 := by omega
        clear hsh h3
        cases ok
        all_goals
          rcases hor with hv | hv | hv | ⟨hv1, hv2, hv3⟩
          · have f1 : (v == 42) = true := by simp [hv]
            clear hv HC3
            go_wp2_with fail
            refine (c1 _).mono ?_
            rintro e w2 ⟨rfl, b2⟩
            have q2 := HBW.out.then b2
            go_wp2_with fail
            refine (c2 _).mono ?_
            rintro e w3 ⟨rfl, b3⟩
            have q3 := q2.then b3
            go_wp2
            go_ret
            exact ⟨rfl, q3⟩
          · have f1 : (v == 42) = false := by simp [hv]
            have f2 : (v == 32) = true := by simp [hv]
            clear hv HC3
            go_wp2_with fail
            refine (c1 _).mono ?_
            rintro e w2 ⟨rfl, b2⟩
            have q2 := HBW.out.then b2
            go_wp2_with fail
            refine (c2 _).mono ?_
            rintro e w3 ⟨rfl, b3⟩
            have q3 := q2.then b3
            go_wp2
            go_ret
            exact ⟨rfl, q3⟩
          · have f1 : (v == 42) = false := by simp [hv]
            have f2 : (v == 32) = false := by simp [hv]
            have f4 : (v == 9) = true := by simp [hv]
            clear hv HC3
            go_wp2_with fail
            refine (c1 _).mono ?_
            rintro e w2 ⟨rfl, b2⟩
            have q2 := HBW.out.then b2
            go_wp2_with fail
            refine (c2 _).mono ?_
            rintro e w3 ⟨rfl, b3⟩
            have q3 := q2.then b3
            go_wp2
            go_ret
            exact ⟨rfl, q3⟩
          · have f1 : (v == 42) = false := by simp [hv1]
            have f2 : (v == 32) = false := by simp [hv2]
            have f4 : (v == 9) = false := by simp [hv3]
            have c3 := HC3.out
            rw [HNO.out ⟨hv1, hv2, hv3⟩] at c3
            have HC4 := Lib.hid c3
            clear hv1 hv2 hv3 HC3 c3
            go_wp2_with fail
            refine (c1 _).mono ?_
            rintro e w2 ⟨rfl, b2⟩
            have q2 := HBW.out.then b2
            go_wp2_with fail
            refine (c2 _).mono ?_
            rintro e w3 ⟨rfl, b3⟩
            have q3 := q2.then b3
            have hcb := HCB.out
            go_wp2_with fail
            refine (HC4.out _).mono ?_
            rintro e w4 ⟨rfl, b4⟩
            go_wp2
            go_ret
            exact ⟨rfl, (below_lit q3 _).then b4⟩

set_option maxHeartbeats 16000000 in
theorem markRules_under (w : World) (kk : Int) (kwf : -9223372036854775808 ≤ kk ∧ kk ≤ 9223372036854775807) (hidx : (wrap64 (kk.tmod 3 + 3)).tmod 3 = 2) (n : Nat) (n12 : n ≤ 12) (A : Option Addr) (cap : Nat) (zs : List Int) (hz12 : zs.length ≤ 12) (hrow : RowOf w A cap (zs.map (Value.int .i64))) (v : Int) (v0 : 0 ≤ v) (v1 : v ≤ 255) :
    Calls Tryd.prog 5 #[.int .i64 kk, .int .i64 n, .slice A zs.length cap, .int .u8 v] w fun e w' => e = .returned (.bool true) ∧ Below w.heap.size w w' := by
  obtain ⟨k0, k1⟩ := kwf
  have hcap := hrow.1
  have hcap2 := hrow.2.1
  rw [List.length_map] at hcap
  unfold maxLen at hcap2
  have HR := Lib.hid hrow
  have HIX := Lib.hid hidx
  clear hrow hidx
  go_enter Tryd.func5, Tryd.ntmps5
  go_wp2_with fail
  refine (alive8_any _).mono ?_
  rintro e w1 ⟨rfl, b1⟩
  have hidx := HIX.out
  have hch : ((⟨#[45, 42, 95]⟩ : ByteArray)[2]'(by decide)).toNat = 95 := rfl
  go_wp2_with fail
  clear hidx hch
  have HR1 := Lib.hid (HR.out.below b1)
  go_loopw [10, 11] (fun zs zi wr => RwRel 95 n w1 zs zi wr) (fun _ i _ => n - (intOf i).toNat)
  case atStart => exact ⟨0, ⟨#[]⟩, rfl, rfl, Nat.zero_le _, rowP_nil _, Nat.le_refl _, Below.refl _ _⟩
  case round =>
    obtain ⟨i, S, rfl, rfl, hi, hP, hsz, hbw⟩ := hrel
    have hcv := conv_95 wr
    have k0 := fun W => run_string_add_sum (P := Tryd.prog) W S (⟨#[95]⟩ : ByteArray) (by show _ + 1 ≤ _; omega)
    have e1 : (S ++ (⟨#[95]⟩ : ByteArray)).data.toList = S.data.toList ++ [95] := cat_one S [95]
    have z1 : (S ++ (⟨#[95]⟩ : ByteArray)).size = S.size + 1 := by rw [ByteArray.size_append]; rfl
    have HP := Lib.hid hP
    have HE1 := Lib.hid e1
    clear hP e1
    by_cases hp : i < n
    · by_cases hg : i < zs.length
      · obtain ⟨b, off, rfl, hblt, hcell⟩ := (HR1.out.below hbw).at (by
          intro e
          have := congrArg List.length e
          rw [List.length_map, List.length_nil] at this
          omega)
        have hci := hcell i (by rw [List.length_map]; exact hg)
        rw [List.getElem_map] at hci
        generalize zs[i] = x at *
        clear hcell
        have q1 : ∀ o, (wr.alloc o).cell? ⟨b, off + i, none⟩ = some (.int .i64 x) := fun o => ((Below.refl _ wr).alloc (Nat.le_refl _) o).cell (p := ⟨b, off + i, none⟩) hblt |>.trans hci
        have q2 : ∀ o o2, ((wr.alloc o).alloc o2).cell? ⟨b, off + i, none⟩ = some (.int .i64 x) := fun o o2 => ((Below.refl _ (wr.alloc o)).alloc (Nat.le_refl _) o2).cell (p := ⟨b, off + i, none⟩) (by rw [alloc_size]; show b < _; omega) |>.trans (q1 o)
        have k1 := fun W => run_string_add_sum (P := Tryd.prog) W (S ++ (⟨#[95]⟩ : ByteArray)) (⟨#[]⟩ : ByteArray) (by show _ + 0 ≤ _; omega)
        have k2 := fun W => run_string_add_sum (P := Tryd.prog) W (S ++ (⟨#[95]⟩ : ByteArray)) (⟨#[32]⟩ : ByteArray) (by show _ + 1 ≤ _; omega)
        have k3 := fun W => run_string_add_sum (P := Tryd.prog) W (S ++ (⟨#[95]⟩ : ByteArray)) (⟨#[32, 32]⟩ : ByteArray) (by show _ + 2 ≤ _; omega)
        have k4 := fun W => run_string_add_sum (P := Tryd.prog) W (S ++ (⟨#[95]⟩ : ByteArray)) (⟨#[9]⟩ : ByteArray) (by show _ + 1 ≤ _; omega)
        have z2 : ∀ g : List UInt8, ((S ++ (⟨#[95]⟩ : ByteArray)) ++ (⟨g.toArray⟩ : ByteArray)).size = S.size + 1 + g.length := fun g => by rw [ByteArray.size_append, z1, str_size g]
        have HZ2 := Lib.hid z2
        clear z2
        rcases and3_cases x with h3 | h3 | h3 | h3
        · go_wp2
          exact ⟨⟨i + 1, _, by go_num, rfl, hp, rw_more HP.out (by decide) [] rfl, by rw [HZ2.out []]; simp only [List.length_cons, List.length_nil]; omega, below_lit (below_lit hbw _) _⟩, by simp [intOf]; omega⟩
        · go_wp2
          exact ⟨⟨i + 1, _, by go_num, rfl, hp, rw_more HP.out (by decide) [32] rfl, by rw [HZ2.out [32]]; simp only [List.length_cons, List.length_nil]; omega, below_lit (below_lit hbw _) _⟩, by simp [intOf]; omega⟩
        · go_wp2
          exact ⟨⟨i + 1, _, by go_num, rfl, hp, rw_more HP.out (by decide) [32, 32] rfl, by rw [HZ2.out [32, 32]]; simp only [List.length_cons, List.length_nil]; omega, below_lit (below_lit hbw _) _⟩, by simp [intOf]; omega⟩
        · go_wp2
          exact ⟨⟨i + 1, _, by go_num, rfl, hp, rw_more HP.out (by decide) [9] rfl, by rw [HZ2.out [9]]; simp only [List.length_cons, List.length_nil]; omega, below_lit (below_lit hbw _) _⟩, by simp [intOf]; omega⟩
      · have hg2 : ((zs.length : Nat) : Int) ≤ (i : Int) := by omega
        go_wp2
        exact ⟨⟨i + 1, _, by go_num, rfl, hp, rw_one HP.out (by decide), by rw [z1]; omega, below_lit hbw _⟩, by simp [intOf]; omega⟩
    · obtain rfl : i = n := by omega
      have HBW := Lib.hid (b1.then hbw)
      have HK := HP.out
      have hbo := byte_of v v0 v1
      have c1 := fun w1 => mkRule_any S w1 (by omega)
      have c2 := fun w1 => mkItem_any S w1 (by omega)
      have c3 := fun w1 => mkRule_any (S ++ (⟨#[v.toNat.toUInt8]⟩ : ByteArray)) w1 (by rw [ByteArray.size_append]; show _ + 1 ≤ _; omega)
      have k3 := fun W => run_string_add_sum (P := Tryd.prog) W S (⟨#[v.toNat.toUInt8]⟩ : ByteArray) (by show _ + 1 ≤ _; omega)
      have HCB := Lib.hid (fun W => conv_byte W v v0 v1)
      rw [HK.rule (by decide) (by decide)] at c1
      rw [cat_one S [v.toNat.toUInt8]] at c3
      have hcases : (3 ≤ i ∧ mkRule S.data.toList = true) ∨ ¬ 3 ≤ i := by
        by_cases h : 3 ≤ i
        · exact Or.inl ⟨h, by rw [HK.rule (by decide) (by decide)]; simpa using h⟩
        · exact Or.inr h
      have hor : v = 95 ∨ v = 32 ∨ v = 9 ∨ (v ≠ 95 ∧ v ≠ 32 ∧ v ≠ 9) := by omega
      have hno : (v ≠ 95 ∧ v ≠ 32 ∧ v ≠ 9) → mkRule (S.data.toList ++ [v.toNat.toUInt8]) = false := by
        rintro ⟨h1, h2, h3⟩
        have hne : ∀ c : UInt8, v ≠ (c.toNat : Int) → v.toNat.toUInt8 ≠ c := fun c hc e => hc (by rw [← e]; exact hbo.symm)
        exact HK.other (by decide) (by decide) (hne 95 h1) (by simp [isGap, hne 32 h2, hne 9 h3])
      have HNO := Lib.hid hno
      have HC3 := Lib.hid c3
      clear hcv k0 z1 HE1 hbw hbo c3 hno HK
      rcases hcases with ⟨h3, hru⟩ | h3
      · rw [item_no hru] at c2
        unfold mkItemV at c2
        dsimp only at c2
        rw [decide_eq_true h3] at c1
        have f3 : decide ((3 : Int) ≤ (i : Int)) = true := by simp; omega
        have hgt : 3 ≤ i := h3
        clear hru h3
        rcases hor with hv | hv | hv | ⟨hv1, hv2, hv3⟩
        · have f1 : (v == 95) = true := by simp [hv]
          clear hv HC3
          go_wp2_with fail
          refine (c1 _).mono ?_
          rintro e w2 ⟨rfl, b2⟩
          have q2 := HBW.out.then b2
          go_wp2_with fail
          refine (c2 _).mono ?_
          rintro e w3 ⟨rfl, b3⟩
          have q3 := q2.then b3
          go_wp2
          go_ret
          exact ⟨rfl, q3⟩
        · have f1 : (v == 95) = false := by simp [hv]
          have f2 : (v == 32) = true := by simp [hv]
          clear hv HC3
          go_wp2_with fail
          refine (c1 _).mono ?_
          rintro e w2 ⟨rfl, b2⟩
          have q2 := HBW.out.then b2
          go_wp2_with fail
          refine (c2 _).mono ?_
          rintro e w3 ⟨rfl, b3⟩
          have q3 := q2.then b3
          go_wp2
          go_ret
          exact ⟨rfl, q3⟩
        · have f1 : (v == 95) = false := by simp [hv]
          have f2 : (v == 32) = false := by simp [hv]
          have f4 : (v == 9) = true := by simp [hv]
          clear hv HC3
          go_wp2_with fail
          refine (c1 _).mono ?_
          rintro e w2 ⟨rfl, b2⟩
          have q2 := HBW.out.then b2
          go_wp2_with fail
          refine (c2 _).mono ?_
          rintro e w3 ⟨rfl, b3⟩
          have q3 := q2.then b3
          go_wp2
          go_ret
          exact ⟨rfl, q3⟩
        · have f1 : (v == 95) = false := by simp [hv1]
          have f2 : (v == 32) = false := by simp [hv2]
          have f4 : (v == 9) = false := by simp [hv3]
          have c3 := HC3.out
          rw [HNO.out ⟨hv1, hv2, hv3⟩] at c3
          have HC4 := Lib.hid c3
          clear hv1 hv2 hv3 HC3 c3
          go_wp2_with fail
          refine (c1 _).mono ?_
          rintro e w2 ⟨rfl, b2⟩
          have q2 := HBW.out.then b2
          go_wp2_with fail
          refine (c2 _).mono ?_
          rintro e w3 ⟨rfl, b3⟩
          have q3 := q2.then b3
          have hcb := HCB.out
          go_wp2_with fail
          refine (HC4.out _).mono ?_
          rintro e w4 ⟨rfl, b4⟩
          go_wp2
          go_ret
          exact ⟨rfl, (below_lit q3 _).then b4⟩
      · obtain ⟨u1, u2, u3, t4, ok, hsh⟩ := itemV_shape (mkItem S.data.toList)
        rw [hsh] at c2
        rw [decide_eq_false h3] at c1
        have f3 : decide ((3 : Int) ≤ (i : Int)) = false := by simp; omega
        have hgt : i < 3 := by omega
        clear hsh h3
        cases ok
        all_goals
          rcases hor with hv | hv | hv | ⟨hv1, hv2, hv3⟩
          · have f1 : (v == 95) = true := by simp [hv]
            clear hv HC3
            go_wp2_with fail
            refine (c1 _).mono ?_
            rintro e w2 ⟨rfl, b2⟩
            have q2 := HBW.out.then b2
            go_wp2_with fail
            refine (c2 _).mono ?_
            rintro e w3 ⟨rfl, b3⟩
            have q3 := q2.then b3
            go_wp2
            go_ret
            exact ⟨rfl, q3⟩
          · have f1 : (v == 95) = false := by simp [hv]
            have f2 : (v == 32) = true := by simp [hv]
            clear hv HC3
            go_wp2_with fail
            refine (c1 _).mono ?_
            rintro e w2 ⟨rfl, b2⟩
            have q2 := HBW.out.then b2
            go_wp2_with fail
            refine (c2 _).mono ?_
            rintro e w3 ⟨rfl, b3⟩
            have q3 := q2.then b3
            go_wp2
            go_ret
            exact ⟨rfl, q3⟩
          · have f1 : (v == 95) = false := by simp [hv]
            have f2 : (v == 32) = false := by simp [hv]
            have f4 : (v == 9) = true := by simp [hv]
            clear hv HC3
            go_wp2_with fail
            refine (c1 _).mono ?_
            rintro e w2 ⟨rfl, b2⟩
            have q2 := HBW.out.then b2
            go_wp2_with fail
            refine (c2 _).mono ?_
            rintro e w3 ⟨rfl, b3⟩
            have q3 := q2.then b3
            go_wp2
            go_ret
            exact ⟨rfl, q3⟩
          · have f1 : (v == 95) = false := by simp [hv1]
            have f2 : (v == 32) = false := by simp [hv2]
            have f4 : (v == 9) = false := by simp [hv3]
            have c3 := HC3.out
            rw [HNO.out ⟨hv1, hv2, hv3⟩] at c3
            have HC4 := Lib.hid c3
            clear hv1 hv2 hv3 HC3 c3
            go_wp2_with fail
            refine (c1 _).mono ?_
            rintro e w2 ⟨rfl, b2⟩
            have q2 := HBW.out.then b2
            go_wp2_with fail
            refine (c2 _).mono ?_
            rintro e w3 ⟨rfl, b3⟩
            have q3 := q2.then b3
            have hcb := HCB.out
            go_wp2_with fail
            refine (HC4.out _).mono ?_
            rintro e w4 ⟨rfl, b4⟩
            go_wp2
            go_ret
            exact ⟨rfl, (below_lit q3 _).then b4⟩

set_option maxHeartbeats 4000000 in
theorem markRules_walk (w : World) (a0 : Int) (w0 : (Lit.int .i64 a0).wf = true) (a1 : Int) (w1 : (Lit.int .i64 a1).wf = true) (A2 : Option Addr) (c2 : Nat) (z2 : List Int) (r2 : RowOf w A2 c2 (z2.map (Value.int .i64))) (w2 : ∀ n ∈ z2, (Lit.int .i64 n).wf = true) (a3 : Int) (w3 : (Lit.int .u8 a3).wf = true) :
    Calls Tryd.prog 5 #[.int .i64 a0, .int .i64 a1, .slice A2 z2.length c2, .int .u8 a3] w fun e w' => e = .returned (.bool true) ∧ Below w.heap.size w w' := by
  have hw0 : -9223372036854775808 ≤ a0 ∧ a0 ≤ 9223372036854775807 := by simpa [Lit.wf, IntKind.min, IntKind.max, IntKind.signed, IntKind.bits] using w0
  have hw1 : -9223372036854775808 ≤ a1 ∧ a1 ≤ 9223372036854775807 := by simpa [Lit.wf, IntKind.min, IntKind.max, IntKind.signed, IntKind.bits] using w1
  have hw3 : 0 ≤ a3 ∧ a3 ≤ 255 := by simpa [Lit.wf, IntKind.min, IntKind.max, IntKind.signed, IntKind.bits] using w3
  have hcap := r2.1
  have hcap2 := r2.2.1
  rw [List.length_map] at hcap
  unfold maxLen at hcap2
  by_cases h : 0 ≤ a1 ∧ a1 ≤ 12 ∧ z2.length ≤ 12
  · obtain ⟨h1, h2, h3⟩ := h
    have e : ((a1.toNat : Nat) : Int) = a1 := by omega
    rcases three_index a0 with hx | hx | hx
    · have := markRules_dash w a0 hw0 hx a1.toNat (by omega) A2 c2 z2 h3 r2 a3 hw3.1 hw3.2
      rw [e] at this
      exact this
    · have := markRules_star w a0 hw0 hx a1.toNat (by omega) A2 c2 z2 h3 r2 a3 hw3.1 hw3.2
      rw [e] at this
      exact this
    · have := markRules_under w a0 hw0 hx a1.toNat (by omega) A2 c2 z2 h3 r2 a3 hw3.1 hw3.2
      rw [e] at this
      exact this
  · have hor : a1 < 0 ∨ (0 ≤ a1 ∧ 12 < a1) ∨ (0 ≤ a1 ∧ a1 ≤ 12 ∧ 12 < z2.length) := by omega
    clear h w0 w1 w2 hw0 hw1 w3 hw3 r2
    rcases hor with h | ⟨h, h2⟩ | ⟨h, h2, h3⟩
    all_goals
      go_enter Tryd.func5, Tryd.ntmps5
      go_wp2_with (go_at_call 10; refine (alive8_any _).mono ?_; rintro e w3 ⟨rfl, b2⟩)
      go_ret
      exact ⟨rfl, b2⟩

end Go.Proofs.YtbfhipdcghajeaaDoor
