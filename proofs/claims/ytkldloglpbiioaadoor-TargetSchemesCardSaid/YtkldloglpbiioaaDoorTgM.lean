/-
  The laws of the layer target: TargetQuotes: its walk.
-/
import Derived.Test.YtkldloglpbiioaaDoorTgK
import Derived.Laws.BytesArg
import Derived.Laws.IdiomStrings
namespace Go.Proofs.YtkldloglpbiioaaDoor
open Go.RowKit
set_option linter.unusedSimpArgs false
set_option linter.unusedVariables false

def quoL : List (UInt8 × UInt8) := [(34, 34), (39, 39), (40, 41)]
def quoQ (j : Nat) : UInt8 := (quoL.getD j (0, 0)).1
def quoE (j : Nat) : UInt8 := (quoL.getD j (0, 0)).2
def quoN (j : Nat) : List UInt8 := if j = 2 then [40] else []
theorem quo_title : ∀ j : Nat, j < 3 → ∀ l : List UInt8, titleL (quoQ j :: l) = btwL (quoE j) (quoN j) (quoQ j :: l)
  | 0, _, _ => rfl
  | 1, _, _ => rfl
  | 2, _, _ => rfl
  | n + 3, h, _ => by omega
theorem quo_e : ∀ j : Nat, j < 3 → (quoE j).toNat ≠ 0 ∧ (quoE j).toNat ≠ 92 ∧ (quoE j).toNat < 97 ∧ asciiB (quoE j).toNat = true ∧ ∀ b ∈ quoN j, b.toNat < 97 := by decide +kernel
theorem quo_qi : ∀ j : Nat, j < 3 → ∀ w : World, (Instr.index 9 (.string ⟨#[34, 39, 40]⟩) (.int .i64 j)).run Tryd.prog w = .ok (.int .u8 (quoQ j).toNat) w
  | 0, _, _ => by kernel_rfl
  | 1, _, _ => by kernel_rfl
  | 2, _, _ => by kernel_rfl
  | n + 3, h, _ => by omega
theorem quo_ei : ∀ j : Nat, j < 3 → ∀ w : World, (Instr.index 9 (.string ⟨#[34, 39, 41]⟩) (.int .i64 j)).run Tryd.prog w = .ok (.int .u8 (quoE j).toNat) w
  | 0, _, _ => by kernel_rfl
  | 1, _, _ => by kernel_rfl
  | 2, _, _ => by kernel_rfl
  | n + 3, h, _ => by omega
theorem unL_esc2 {e : UInt8} (he : asciiB e.toNat = true) (l : List UInt8) : unL (92 :: e :: l) = e :: unL l := by
  have h : escL (92 :: e :: l) = ([e], 2) := by
    unfold escL
    rw [if_pos ⟨by simp, by simp, by simpa using he⟩]
    rfl
  rw [unL_esc (by rw [h]; exact Nat.zero_lt_two), h]
  rfl
theorem unL_app : ∀ (m l : List UInt8), (∀ b ∈ m, b.toNat ≠ 92 ∧ b.toNat ≠ 38) → unL (m ++ l) = m ++ unL l
  | [], _, _ => rfl
  | b :: m, l, h => by
    have hb := h b (by simp)
    rw [List.cons_append, unL_byte (escL_none hb.1 hb.2), unL_app m l (fun x hx => h x (by simp [hx]))]
    rfl
theorem quo_pass (j : Nat) (hj : j < 3) {u : List UInt8} (h : Letters u) : ∀ b ∈ u, b.toNat ≠ 0 ∧ b.toNat ≠ 92 ∧ b ≠ quoE j ∧ b ∉ quoN j := by
  intro b hb
  have h1 := h b hb
  obtain ⟨_, _, e3, _, e5⟩ := quo_e j hj
  refine ⟨by omega, by omega, ?_, ?_⟩
  · rintro rfl; omega
  · intro hm; have := e5 b hm; omega
theorem quo_yes (j : Nat) (hj : j < 3) {a b : List UInt8} (ha : Letters a) (hb : Letters b) (more : List UInt8) :
    titleL (quoQ j :: (a ++ 92 :: quoE j :: (b ++ quoE j :: more))) = (a ++ quoE j :: b, a.length + b.length + 4, true) := by
  obtain ⟨e1, e2, e3, e4, e5⟩ := quo_e j hj
  have hgo : btwGo (quoE j) (quoN j) (a ++ 92 :: quoE j :: (b ++ quoE j :: more)) false 1 = some (a.length + b.length + 3) := by
    rw [btwGo_plain _ _ a _ 1 (quo_pass j hj ha), btwGo_slash (by decide), btwGo_bh e1, btwGo_plain _ _ b _ _ (quo_pass j hj hb), btwGo_shut e1 e2 rfl]
    congr 1
    omega
  rw [quo_title j hj]
  unfold btwL
  rw [List.drop_one, List.tail_cons, hgo]
  simp only
  have ht : ((quoQ j :: (a ++ 92 :: quoE j :: (b ++ quoE j :: more))).take (a.length + b.length + 3)).drop 1 = a ++ 92 :: quoE j :: b := by
    rw [show a.length + b.length + 3 = (a.length + b.length + 2) + 1 from rfl, List.take_succ_cons, List.drop_one, List.tail_cons]
    rw [show a ++ 92 :: quoE j :: (b ++ quoE j :: more) = (a ++ 92 :: quoE j :: b) ++ quoE j :: more from by simp]
    rw [List.take_append_of_le_length (by simp; omega), List.take_of_length_le (by simp; omega)]
  rw [ht, unL_app a _ (fun x hx => by have := ha x hx; omega), unL_esc2 e4, unL_letters hb]
theorem quo_no (j : Nat) (hj : j < 3) {a b : List UInt8} (ha : Letters a) (hb : Letters b) : titleL (quoQ j :: (a ++ 92 :: quoE j :: b)) = ([], 0, false) := by
  obtain ⟨e1, e2, e3, e4, e5⟩ := quo_e j hj
  have hgo : btwGo (quoE j) (quoN j) (a ++ 92 :: quoE j :: b) false 1 = none := by
    have hb2 := btwGo_plain (quoE j) (quoN j) b [] (1 + a.length + 1 + 1) (quo_pass j hj hb)
    rw [List.append_nil] at hb2
    rw [btwGo_plain _ _ a _ 1 (quo_pass j hj ha), btwGo_slash (by decide), btwGo_bh e1, hb2]
    rfl
  rw [quo_title j hj]
  unfold btwL
  rw [List.drop_one, List.tail_cons, hgo]
theorem tmod3_bd (a : Int) : -3 < a.tmod 3 ∧ a.tmod 3 < 3 := by
  have h1 := Int.tmod_lt_of_pos a (show (0 : Int) < 3 by decide)
  have h2 := Int.lt_tmod_of_pos a (show (0 : Int) < 3 by decide)
  omega
theorem quo_index (a : Int) : ∃ j : Nat, j < 3 ∧ (wrap64 (a.tmod 3 + 3)).tmod 3 = (j : Int) := by
  obtain ⟨h1, h2⟩ := tmod3_bd a
  have e : wrap64 (a.tmod 3 + 3) = a.tmod 3 + 3 := by unfold wrap64; omega
  rw [e, Int.tmod_eq_emod_of_nonneg (by omega)]
  exact ⟨((a.tmod 3 + 3) % 3).toNat, by omega, by omega⟩
theorem conv_byte (w : World) (v : Int) (h0 : 0 ≤ v) (h1 : v ≤ 255) :
    (convert 25 9 (.slice (some ⟨w.heap.size, 0, none⟩) 1 1)).run Tryd.prog (w.alloc (.cells #[.int .u8 v] 5)) = .ok (.string ⟨#[v.toNat.toUInt8]⟩) (w.alloc (.cells #[.int .u8 v] 5)) := by
  exact run_convert_bytes_back (w.alloc (.cells #[.int .u8 v] 5)) 25 9 5 ⟨w.heap.size, 0, none⟩ 1 [v.toNat.toUInt8] Tryd.underlying25 Tryd.underlying5 Tryd.underlying9 (fun j hj => by
    simp only [List.length_cons, List.length_nil] at hj
    obtain rfl : j = 0 := by omega
    have e : ((v.toNat.toUInt8).toNat : Int) = v := by
      rw [Nat.toUInt8_eq, UInt8.toNat_ofNat']
      omega
    show _ = some (Value.int .u8 ((v.toNat.toUInt8).toNat : Int))
    rw [e]
    simp [Addr.add])
theorem conv_u8 (q : UInt8) (w : World) :
    (convert 25 9 (.slice (some ⟨w.heap.size, 0, none⟩) 1 1)).run Tryd.prog (w.alloc (.cells #[.int .u8 q.toNat] 5)) = .ok (.string ⟨#[q]⟩) (w.alloc (.cells #[.int .u8 q.toNat] 5)) := by
  have h := conv_byte w q.toNat (by omega) (by have := q.toNat_lt; omega)
  rw [show ((q.toNat : Int)).toNat.toUInt8 = q from by simp] at h
  exact h

def TwoRel (a0 a1 : ByteArray) (i : Value) : Prop := ∃ k : Int, i = .int .i64 k ∧ (k = 0 ∨ k = 1 ∧ Letters a0.data.toList ∨ k = 2 ∧ Letters a0.data.toList ∧ Letters a1.data.toList)

set_option maxHeartbeats 4000000 in
set_option maxRecDepth 100000 in
theorem targetQuotes_in (w : World) (hn : TenIs w) (a0 a1 : ByteArray) (a2 : Int) (h1 : a0.size ≤ 30) (h2 : a1.size ≤ 30) (k0 : -9223372036854775808 ≤ a2) (k1 : a2 ≤ 9223372036854775807) :
    Calls Tryd.prog 7 #[.string a0, .string a1, .int .i64 a2] w fun e w' => e = .returned (.bool true) ∧ Below w.heap.size w w' := by
  have ca := alive10_any w hn
  have HN := Lib.hid hn
  obtain ⟨j, hj, hx⟩ := quo_index a2
  have hqi := quo_qi j hj
  have hei := quo_ei j hj
  have HY := Lib.hid (fun ha hb more => quo_yes j hj (a := a0.data.toList) (b := a1.data.toList) ha hb more)
  have HNo := Lib.hid (fun ha hb => quo_no j hj (a := a0.data.toList) (b := a1.data.toList) ha hb)
  clear hn
  generalize quoQ j = q at *
  generalize quoE j = e at *
  go_enter Tryd.func7, Tryd.ntmps7
  go_wp2_with fail
  refine ca.mono ?_
  rintro e' w1 ⟨rfl, b1⟩
  go_wp2_with fail
  go_quiet (fail)
  go_wp2_with fail
  have HBL := Lib.hid (show Below w.heap.size w ((w1.drewN nq).alloc (.cells #[.string a0, .string a1] 9)) from (below_drewN' b1 nq).alloc (by have := b1.size; exact this) _)
  have hc0 : ((w1.drewN nq).alloc (.cells #[.string a0, .string a1] 9)).cell? ⟨w1.heap.size, 0, none⟩ = some (.string a0) :=
    (cell_of_row _ w1.heap.size 0 #[.string a0, .string a1] 9 (0, 0) (heap_alloc_new (w1.drewN nq) _)).trans rfl
  have hc1 : ((w1.drewN nq).alloc (.cells #[.string a0, .string a1] 9)).cell? ⟨w1.heap.size, 1, none⟩ = some (.string a1) :=
    (cell_of_row _ w1.heap.size 1 #[.string a0, .string a1] 9 (0, 0) (heap_alloc_new (w1.drewN nq) _)).trans rfl
  go_loop [46] (fun i => TwoRel a0 a1 i) (fun i => 2 - (intOf i).toNat)
  case atStart => exact ⟨0, rfl, Or.inl rfl⟩
  case round =>
    obtain ⟨k, rfl, hk⟩ := hrel
    rcases hk with rfl | ⟨rfl, hl0⟩ | ⟨rfl, hl0, hl1⟩
    · skip
      go_wp2_with fail
      go_loop [11] (fun i => LetRel a0 i) (fun i => a0.size - (intOf i).toNat)
      case atStart => exact ⟨0, rfl, Nat.zero_le _, by intro b hb; simp at hb⟩
      case round =>
        obtain ⟨m, rfl, hm, hL⟩ := hrel
        by_cases hp : m < a0.size
        · have hix := index_str a0 m m rfl hp
          by_cases hb : 97 ≤ a0[m].toNat ∧ a0[m].toNat ≤ 122
          · have HL := Lib.hid (letters_snoc hL hp hb.1 hb.2)
            obtain ⟨hb1, hb2⟩ := hb
            clear hL
            generalize a0[m] = b at *
            go_wp2
            go_round
            case rel => exact ⟨m + 1, by go_num, by omega, HL.out⟩
            case measure => simp [intOf]; omega
          · have hcase : a0[m].toNat < 97 ∨ 97 ≤ a0[m].toNat ∧ 122 < a0[m].toNat := by omega
            clear hL hb
            generalize a0[m] = b at *
            rcases hcase with hb | ⟨hb, hb2⟩
            all_goals
              go_wp2
              go_ret
              exact ⟨rfl, HBL.out⟩
        · obtain rfl : m = a0.size := by omega
          rw [List.take_of_length_le (by simp)] at hL
          have HL := Lib.hid hL
          clear hL
          go_wp2
          go_round
          case rel => exact ⟨1, rfl, Or.inr (Or.inl ⟨rfl, HL.out⟩)⟩
          case measure => simp [intOf]
    · have HL0 := Lib.hid hl0
      clear hl0
      go_wp2_with fail
      go_loop [11] (fun i => LetRel a1 i) (fun i => a1.size - (intOf i).toNat)
      case atStart => exact ⟨0, rfl, Nat.zero_le _, by intro b hb; simp at hb⟩
      case round =>
        obtain ⟨m, rfl, hm, hL⟩ := hrel
        by_cases hp : m < a1.size
        · have hix := index_str a1 m m rfl hp
          by_cases hb : 97 ≤ a1[m].toNat ∧ a1[m].toNat ≤ 122
          · have HL := Lib.hid (letters_snoc hL hp hb.1 hb.2)
            obtain ⟨hb1, hb2⟩ := hb
            clear hL
            generalize a1[m] = b at *
            go_wp2
            go_round
            case rel => exact ⟨m + 1, by go_num, by omega, HL.out⟩
            case measure => simp [intOf]; omega
          · have hcase : a1[m].toNat < 97 ∨ 97 ≤ a1[m].toNat ∧ 122 < a1[m].toNat := by omega
            clear hL hb
            generalize a1[m] = b at *
            rcases hcase with hb | ⟨hb, hb2⟩
            all_goals
              go_wp2
              go_ret
              exact ⟨rfl, HBL.out⟩
        · obtain rfl : m = a1.size := by omega
          rw [List.take_of_length_le (by simp)] at hL
          have HL := Lib.hid hL
          clear hL
          go_wp2
          go_round
          case rel => exact ⟨2, rfl, Or.inr (Or.inr ⟨rfl, HL0.out, HL.out⟩)⟩
          case measure => simp [intOf]
    · have hz0 : a0.data.toList.length = a0.size := by simp
      have hz1 : a1.data.toList.length = a1.size := by simp
      have hy := HY.out hl0 hl1 a0.data.toList
      have hno := HNo.out hl0 hl1
      rw [hz0, hz1] at hy
      have hcv1 := conv_u8 q ((w1.drewN nq).alloc (.cells #[.string a0, .string a1] 9))
      rw [alloc_size, show (w1.drewN nq).heap.size = w1.heap.size from rfl] at hcv1
      have hcv2 := conv_u8 e (((w1.drewN nq).alloc (.cells #[.string a0, .string a1] 9)).alloc (.cells #[.int .u8 q.toNat] 5))
      rw [alloc_size, alloc_size, show (w1.drewN nq).heap.size = w1.heap.size from rfl, show w1.heap.size + 1 + 1 = w1.heap.size + 2 from rfl] at hcv2
      have hcv3 := conv_u8 e ((((w1.drewN nq).alloc (.cells #[.string a0, .string a1] 9)).alloc (.cells #[.int .u8 q.toNat] 5)).alloc (.cells #[.int .u8 e.toNat] 5))
      rw [alloc_size, alloc_size, alloc_size, show (w1.drewN nq).heap.size = w1.heap.size from rfl, show w1.heap.size + 1 + 1 + 1 = w1.heap.size + 3 from rfl] at hcv3
      have p1 : ((⟨#[q]⟩ : ByteArray) ++ a0).size = a0.size + 1 := by rw [ByteArray.size_append]; show 1 + _ = _; omega
      have p2 : ((⟨#[q]⟩ : ByteArray) ++ a0 ++ (⟨#[92]⟩ : ByteArray)).size = a0.size + 2 := by rw [ByteArray.size_append, p1]; rfl
      have p3 : ((⟨#[q]⟩ : ByteArray) ++ a0 ++ (⟨#[92]⟩ : ByteArray) ++ (⟨#[e]⟩ : ByteArray)).size = a0.size + 3 := by rw [ByteArray.size_append, p2]; rfl
      have p4 : ((⟨#[q]⟩ : ByteArray) ++ a0 ++ (⟨#[92]⟩ : ByteArray) ++ (⟨#[e]⟩ : ByteArray) ++ a1).size = a0.size + 3 + a1.size := by rw [ByteArray.size_append, p3]
      have p5 : ((⟨#[q]⟩ : ByteArray) ++ a0 ++ (⟨#[92]⟩ : ByteArray) ++ (⟨#[e]⟩ : ByteArray) ++ a1 ++ (⟨#[e]⟩ : ByteArray)).size = a0.size + 3 + a1.size + 1 := by rw [ByteArray.size_append, p4]; rfl
      have s1 := fun W => run_string_add_sum (P := Tryd.prog) W (⟨#[q]⟩ : ByteArray) a0 (by show 1 + a0.size ≤ _; omega)
      have s2 := fun W => run_string_add_sum (P := Tryd.prog) W ((⟨#[q]⟩ : ByteArray) ++ a0) (⟨#[92]⟩ : ByteArray) (by rw [p1]; show _ + 1 ≤ _; omega)
      have s3 := fun W => run_string_add_sum (P := Tryd.prog) W ((⟨#[q]⟩ : ByteArray) ++ a0 ++ (⟨#[92]⟩ : ByteArray)) (⟨#[e]⟩ : ByteArray) (by rw [p2]; show _ + 1 ≤ _; omega)
      have s4 := fun W => run_string_add_sum (P := Tryd.prog) W ((⟨#[q]⟩ : ByteArray) ++ a0 ++ (⟨#[92]⟩ : ByteArray) ++ (⟨#[e]⟩ : ByteArray)) a1 (by rw [p3]; omega)
      have s5 := fun W => run_string_add_sum (P := Tryd.prog) W ((⟨#[q]⟩ : ByteArray) ++ a0 ++ (⟨#[92]⟩ : ByteArray) ++ (⟨#[e]⟩ : ByteArray) ++ a1) (⟨#[e]⟩ : ByteArray) (by rw [p4]; show _ + 1 ≤ _; omega)
      have hSl : ((⟨#[q]⟩ : ByteArray) ++ a0 ++ (⟨#[92]⟩ : ByteArray) ++ (⟨#[e]⟩ : ByteArray) ++ a1 ++ (⟨#[e]⟩ : ByteArray)).data.toList = q :: (a0.data.toList ++ 92 :: e :: (a1.data.toList ++ [e])) := by simp
      clear p1 p2 p3 p4
      have HP5 := Lib.hid p5
      have HSl := Lib.hid hSl
      have HYY := Lib.hid hy
      have HNN := Lib.hid hno
      clear p5 hSl hy hno hl0 hl1 hz0 hz1
      have hSa : ((⟨#[q]⟩ : ByteArray) ++ a0 ++ (⟨#[92]⟩ : ByteArray) ++ (⟨#[e]⟩ : ByteArray) ++ a1 ++ (⟨#[e]⟩ : ByteArray) ++ a0).data.toList = q :: (a0.data.toList ++ 92 :: e :: (a1.data.toList ++ e :: a0.data.toList)) := by simp
      have c1 := fun W hn => title_any ((⟨#[q]⟩ : ByteArray) ++ a0 ++ (⟨#[92]⟩ : ByteArray) ++ (⟨#[e]⟩ : ByteArray) ++ a1 ++ (⟨#[e]⟩ : ByteArray) ++ a0) W hn (by rw [ByteArray.size_append, HP5.out]; omega)
      rw [hSa, HYY.out, show a0.size + a1.size + 4 = ((⟨#[q]⟩ : ByteArray) ++ a0 ++ (⟨#[92]⟩ : ByteArray) ++ (⟨#[e]⟩ : ByteArray) ++ a1 ++ (⟨#[e]⟩ : ByteArray)).size from by rw [HP5.out]; omega] at c1
      unfold tib at c1
      simp only at c1
      rw [show (⟨(a0.data.toList ++ e :: a1.data.toList).toArray⟩ : ByteArray) = (a0 ++ (⟨#[e]⟩ : ByteArray)) ++ a1 from by apply ByteArray.ext; apply Array.ext'; simp] at c1
      have C1 := Lib.hid c1
      have HB4 := Lib.hid (show Below w.heap.size w (((((w1.drewN nq).alloc (.cells #[.string a0, .string a1] 9)).alloc (.cells #[.int .u8 q.toNat] 5)).alloc (.cells #[.int .u8 e.toNat] 5)).alloc (.cells #[.int .u8 e.toNat] 5)) from by
        have h0 := HBL.out
        have h1 := h0.alloc h0.size (.cells #[.int .u8 q.toNat] 5)
        have h2 := h1.alloc h1.size (.cells #[.int .u8 e.toNat] 5)
        exact h2.alloc h2.size _)
      have s6 := fun W => run_string_add_sum (P := Tryd.prog) W ((⟨#[q]⟩ : ByteArray) ++ a0 ++ (⟨#[92]⟩ : ByteArray) ++ (⟨#[e]⟩ : ByteArray) ++ a1 ++ (⟨#[e]⟩ : ByteArray)) a0 (by rw [HP5.out]; omega)
      have s7 := fun W => run_string_add_sum (P := Tryd.prog) W a0 (⟨#[e]⟩ : ByteArray) (by show _ + 1 ≤ _; omega)
      have s8 := fun W => run_string_add_sum (P := Tryd.prog) W (a0 ++ (⟨#[e]⟩ : ByteArray)) a1 (by rw [ByteArray.size_append]; show _ + 1 + _ ≤ _; omega)
      clear c1 hSa
      go_wp2_with fail
      refine (C1.out _ (HN.out.below HB4.out).1).mono ?_
      rintro e' w3 ⟨rfl, b3⟩
      have q3 := HB4.out.then b3
      have hSz := HP5.out
      have hSl := HSl.out
      clear hcv1 hcv2 hcv3 s1 s2 s3 s4 s5 s6
      generalize (⟨#[q]⟩ : ByteArray) ++ a0 ++ (⟨#[92]⟩ : ByteArray) ++ (⟨#[e]⟩ : ByteArray) ++ a1 ++ (⟨#[e]⟩ : ByteArray) = S at *
      have hsl := slice_hi S ((S.size : Int) - 1) (S.size - 1) (by omega) (by omega)
      have c2 := fun W hn => title_any (S.extract 0 (S.size - 1)) W hn (by rw [ByteArray.size_extract]; omega)
      have hT : (S.extract 0 (S.size - 1)).data.toList = q :: (a0.data.toList ++ 92 :: e :: a1.data.toList) := by
        rw [take_str, hSl, show q :: (a0.data.toList ++ 92 :: e :: (a1.data.toList ++ [e])) = (q :: (a0.data.toList ++ 92 :: e :: a1.data.toList)) ++ [e] from by simp]
        rw [List.take_append_of_le_length (by simp; omega), List.take_of_length_le (by simp; omega)]
      rw [hT, HNN.out] at c2
      unfold tib at c2
      simp only at c2
      have C2 := Lib.hid c2
      have hz1 : S.size ≤ 100 := by omega
      have hz0 : 1 ≤ S.size := by omega
      clear c2 hT hSl hSz HP5 HSl C1
      generalize S.extract 0 (S.size - 1) = S2 at *
      go_wp2_with fail
      refine (C2.out _ (HN.out.below q3).1).mono ?_
      rintro e' w4 ⟨rfl, b4⟩
      have q4 := Lib.hid (q3.then b4)
      have hcv4 := conv_u8 e w4
      clear b3 b4 hsl
      go_wp2
      go_ret
      exact ⟨rfl, q4.out.alloc q4.out.size _⟩

set_option maxHeartbeats 1000000 in
theorem targetQuotes_walk (w : World) (hn : TenIs w) (a0 : ByteArray) (w0 : a0.size ≤ maxLen) (a1 : ByteArray) (w1 : a1.size ≤ maxLen) (a2 : Int) (w2 : (Lit.int .i64 a2).wf = true) :
    Calls Tryd.prog 7 #[.string a0, .string a1, .int .i64 a2] w fun e w' => e = .returned (.bool true) ∧ Below w.heap.size w w' := by
  unfold maxLen at w0 w1
  have hw2 : -9223372036854775808 ≤ a2 ∧ a2 ≤ 9223372036854775807 := by simpa [Lit.wf, IntKind.min, IntKind.max, IntKind.signed, IntKind.bits] using w2
  by_cases h : a0.size ≤ 30 ∧ a1.size ≤ 30
  · exact targetQuotes_in w hn a0 a1 a2 h.1 h.2 hw2.1 hw2.2
  · have ca := alive10_any w hn
    clear hn w2 hw2
    have hcase : 30 < a0.size ∨ a0.size ≤ 30 ∧ 30 < a1.size := by omega
    clear h
    rcases hcase with h1 | ⟨h1, h2⟩
    all_goals
      go_enter Tryd.func7, Tryd.ntmps7
      go_wp2_with (go_at_call 9; refine ca.mono ?_; rintro e w1 ⟨rfl, b1⟩)
      go_ret
      exact ⟨rfl, b1⟩

end Go.Proofs.YtkldloglpbiioaaDoor
