/-
  EmphPairs.
-/
import Derived.Test.YtmgcfmcpagegmaaEmU
namespace Go.Proofs.Ytmgcfmcpagegmaa
open Go.RowKit Go.Maps Go.ChangeShapes
set_option linter.unusedSimpArgs false
set_option linter.unusedVariables false
set_option maxRecDepth 100000

/-- What the law counts: Strong, Emph, the signs that are left. -/
def pStep (s : List UInt8) (st : Nat × Nat × Nat) (x : Iln) : Nat × Nat × Nat :=
  if x.kd = 4 then (st.1 + 1, st.2.1, st.2.2)
  else if x.kd = 3 then (st.1, st.2.1 + 1, st.2.2)
  else if x.kd = 1 ∧ (x.txt ≠ s ∨ x.dp ≠ st.1 + st.2.1) then (st.1, st.2.1, st.2.2 + x.txt.length) else st
theorem pStep_chain (s : List UInt8) (ks : List Int) (hk : ∀ z ∈ ks, z = 3 ∨ z = 4) : ∀ (a b l i : Nat), (ks.zipIdx i |>.map fun p => (⟨p.1, (p.2 : Int), [], [], []⟩ : Iln)).foldl (pStep s) (a, b, l) = (a + (ks.filter (· == 4)).length, b + (ks.filter (· == 3)).length, l) := by
  induction ks with
  | nil => intro a b l i; rfl
  | cons k ks ih =>
    intro a b l i
    have h1 := ih (fun z hz => hk z (List.mem_cons_of_mem _ hz))
    rw [List.zipIdx_cons, List.map_cons, List.foldl_cons]
    rcases hk k (List.mem_cons_self ..) with rfl | rfl
    · rw [show pStep s (a, b, l) ⟨3, (i : Int), [], [], []⟩ = (a, b + 1, l) from rfl, h1]
      simp [Nat.add_assoc, Nat.add_comm 1]
    · rw [show pStep s (a, b, l) ⟨4, (i : Int), [], [], []⟩ = (a + 1, b, l) from rfl, h1]
      simp [Nat.add_assoc, Nat.add_comm 1]
theorem pairK_four (k : Nat) : ((pairK k).filter (· == 4)).length = k / 2 := by
  unfold pairK
  split <;> simp
theorem pairK_three (k : Nat) : ((pairK k).filter (· == 3)).length = k % 2 := by
  unfold pairK
  rcases (by omega : k % 2 = 0 ∨ k % 2 = 1) with h | h <;> simp [h]
/-- What the law counts of its group. -/
theorem pairs_count (c : UInt8) (n m : Nat) (hn : 1 ≤ n) (hm : 1 ≤ m) (s : List UInt8) : ∃ l, (rowI c (n - min n m) ++ chainI (pairK (min n m)) s ++ rowI c (m - min n m)).foldl (pStep s) (0, 0, 0) = ((min n m) / 2, (min n m) % 2, l) ∧
    ((n = m ∨ s.head? ≠ some c) → l = n + m - 2 * min n m) := by
  have hlen := pairK_length (min n m)
  have h0 : ∃ l0, (rowI c (n - min n m)).foldl (pStep s) (0, 0, 0) = (0, 0, l0) ∧ ((n = m ∨ s.head? ≠ some c) → l0 = n - min n m) := by
    unfold rowI
    split
    · next h => exact ⟨0, rfl, fun _ => h.symm⟩
    · next h =>
      by_cases e : List.replicate (n - min n m) c = s
      · refine ⟨0, by simp [pStep, wordsI, e], fun h2 => ?_⟩
        rcases h2 with h2 | h2
        · omega
        · exfalso
          apply h2
          rw [← e]
          obtain ⟨j, hj⟩ : ∃ j, n - min n m = j + 1 := ⟨n - min n m - 1, by omega⟩
          rw [hj, List.replicate_succ]
          rfl
      · exact ⟨n - min n m, by simp [pStep, wordsI, e], fun _ => rfl⟩
  obtain ⟨l0, e0, hl0⟩ := h0
  have e1 : (chainI (pairK (min n m)) s).foldl (pStep s) (0, 0, l0) = ((min n m) / 2, (min n m) % 2, l0) := by
    unfold chainI
    rw [List.foldl_append, pStep_chain s _ (pairK_kinds _) 0 0 l0 0, pairK_four, pairK_three, Nat.zero_add, Nat.zero_add, List.foldl_cons, List.foldl_nil]
    unfold pStep wordsI
    rw [hlen]
    simp
  have e2 : ∀ a b l : Nat, 1 ≤ a + b → (rowI c (m - min n m)).foldl (pStep s) (a, b, l) = (a, b, l + (m - min n m)) := by
    intro a b l hab
    unfold rowI
    split
    · next h => rw [h]; rfl
    · have : (0 : Int) ≠ (a : Int) + b := by omega
      simp [pStep, wordsI, this]
  refine ⟨l0 + (m - min n m), ?_, fun h => ?_⟩
  · rw [List.foldl_append, List.foldl_append, e0, e1, e2 _ _ _ (by omega)]
  · have := hl0 h
    omega

theorem g_bound (c : UInt8) (n m : Nat) (s : List UInt8) (hn : n ≤ 12) (hm : m ≤ 12) (hs : s.length ≤ 20) : (rowI c (n - min n m) ++ chainI (pairK (min n m)) s ++ rowI c (m - min n m)).length ≤ 100 ∧ ∀ x ∈ (rowI c (n - min n m) ++ chainI (pairK (min n m)) s ++ rowI c (m - min n m)), x.txt.length ≤ 100 := by
  have hr : ∀ k, k ≤ 12 → (rowI c k).length ≤ 1 ∧ ∀ x ∈ rowI c k, x.txt.length ≤ 100 := by
    intro k hk
    unfold rowI
    split
    · simp
    · simp [wordsI]; omega
  have hc : (chainI (pairK (min n m)) s).length ≤ 30 ∧ ∀ x ∈ chainI (pairK (min n m)) s, x.txt.length ≤ 100 := by
    have hl := pairK_length (min n m)
    unfold chainI
    constructor
    · rw [List.length_append, List.length_map, List.length_zipIdx, hl]
      simp
      omega
    · intro x hx
      rcases List.mem_append.1 hx with hx | hx
      · obtain ⟨p, _, rfl⟩ := List.mem_map.1 hx
        simp
      · rw [List.mem_singleton] at hx
        subst hx
        show s.length ≤ 100
        omega
  have h1 := hr (n - min n m) (by omega)
  have h2 := hr (m - min n m) (by omega)
  constructor
  · simp only [List.length_append]
    omega
  · intro x hx
    rcases List.mem_append.1 hx with hx | hx
    · rcases List.mem_append.1 hx with hx | hx
      · exact h1.2 x hx
      · exact hc.2 x hx
    · exact h2.2 x hx

set_option maxHeartbeats 4000000 in
theorem emphPairs_walk (w : World) (a0 : Int) (w0 : (Lit.int .i64 a0).wf = true) (a1 : Int) (w1 : (Lit.int .i64 a1).wf = true) (a2 : Bool) (a3 : ByteArray) (w3 : a3.size ≤ maxLen) :
    Calls Try.prog 4 #[.int .i64 a0, .int .i64 a1, .bool a2, .string a3] w fun e w' => e = .returned (.bool true) ∧ Below w.heap.size w w' := by
  have hal := alive14_any w
  by_cases hin : (1 ≤ a0 ∧ a0 ≤ 12) ∧ (1 ≤ a1 ∧ a1 ≤ 12) ∧ a3.toList.isEmpty = false ∧ a3.size ≤ 20
  · obtain ⟨⟨h1, h2⟩, ⟨h3, h4⟩, h5, h6⟩ := hin
    obtain ⟨n, rfl⟩ : ∃ n : Nat, a0 = n := ⟨a0.toNat, by omega⟩
    obtain ⟨m, rfl⟩ : ∃ m : Nat, a1 = m := ⟨a1.toNat, by omega⟩
    have t1 : decide ((n : Int) < 1) = false := by simp; omega
    have t2 : decide ((m : Int) < 1) = false := by simp; omega
    have t3 : decide (12 < (n : Int)) = false := by simp; omega
    have t4 : decide (12 < (m : Int)) = false := by simp; omega
    have t5 := h5
    have t6 : decide (20 < (a3.size : Int)) = false := by simp; omega
    go_enter Try.func4, Try.ntmps4
    go_wp2_with fail
    refine hal.mono ?_
    rintro e w1 ⟨rfl, b1⟩
    have HB1 := Lib.hid b1
    clear b1 hal
    have hne : a3.data.toList ≠ [] := fun e => by rw [ByteArray.toList_eq, e] at h5; cases h5
    cases a2 with
    | true =>
      go_wp2_with fail
      refine (group3_any (g := w1.heap.size) (g' := w1.heap.size + 1) (opn 95 n n) (cls 95 m m) a3.data.toList _ (by rw [Lib.mk_data]; exact (Below.heap_alloc _ _ _ (by simp)).trans (heap_alloc_new _ _)) (heap_alloc2_new _ _ _) ⟨by show (95 : UInt8) ≠ 0; decide, rfl, by show (0 : Int) ≤ n; omega, by show (n : Int) ≤ 1000; omega, rfl⟩ ⟨by show (95 : UInt8) ≠ 0; decide, rfl, by show (0 : Int) ≤ m; omega, by show (m : Int) ≤ 1000; omega, rfl⟩ (by have : a3.data.toList.length = a3.size := rfl; omega)).mono ?_
      rintro e w2 ⟨⟨v, rfl, ho⟩, b2⟩
      have hB2 := ((HB1.out.alloc HB1.out.size _).alloc (by have := HB1.out.size; simp; omega) _).trans (b2.mono (by have := HB1.out.size; simp; omega))
      rw [pairs_plain 95 (by decide) n m (by omega) (by omega) (by omega) a3.data.toList hne] at ho
      obtain ⟨lf, hcnt, hlf⟩ := pairs_count 95 n m (by omega) (by omega) a3.data.toList
      have hbd : (rowI 95 (n - min n m) ++ chainI (pairK (min n m)) a3.data.toList ++ rowI 95 (m - min n m)).length ≤ 100 ∧ ∀ x ∈ (rowI 95 (n - min n m) ++ chainI (pairK (min n m)) a3.data.toList ++ rowI 95 (m - min n m)), x.txt.length ≤ 100 := g_bound 95 n m a3.data.toList (by omega) (by omega) (by have : a3.data.toList.length = a3.size := rfl; omega)
      generalize (rowI 95 (n - min n m) ++ chainI (pairK (min n m)) a3.data.toList ++ rowI 95 (m - min n m)) = G at *
      obtain ⟨A1, k1, rfl, hG⟩ := EltsAt.own ilC_length ho
      have hgl : G.length ≤ 9223372036854775807 := by have h1 := hG.le; have h2 := hG.cap; unfold maxLen at h2; omega
      have HB2 := Lib.hid hB2
      have HBD := Lib.hid hbd
      have hgl2 : G.length ≤ 100 := hbd.1
      have HGG := Lib.hid hG
      clear hbd hG
      have HC := Lib.hid hcnt
      have HL := Lib.hid hlf
      clear hB2 b2 ho hcnt hlf
      go_wp2_with fail
      go_loopw [12, 13, 14, 62] (fun a b l i wr => ∃ (k x y z : Nat), i = .int .i64 k ∧ k ≤ G.length ∧ a = .int .i64 x ∧ b = .int .i64 y ∧ l = .int .i64 z ∧ (G.take k).foldl (pStep a3.data.toList) (0, 0, 0) = (x, y, z) ∧ (x ≤ k ∧ y ≤ k ∧ z ≤ 100 * k) ∧ wr = w2) (fun _ _ _ i _ => G.length - (intOf i).toNat)
      case atStart => exact ⟨0, 0, 0, 0, rfl, Nat.zero_le _, rfl, rfl, rfl, rfl, ⟨Nat.le_refl _, Nat.le_refl _, Nat.le_refl _⟩, rfl⟩
      case round =>
        obtain ⟨k, x, y, z, rfl, hk, rfl, rfl, rfl, hf, hxyz, hw⟩ := hrel
        obtain rfl : w2 = wr := hw.symm
        by_cases hp : k < G.length
        · obtain ⟨b, off, e, hb, c0, c1, c2, c3, c4⟩ := InlsAt.cells5 HGG.out hp
          subst e
          have hfk : (G.take (k + 1)).foldl (pStep a3.data.toList) (0, 0, 0) = pStep a3.data.toList (x, y, z) G[k] := by
            rw [List.take_succ_eq_append_getElem hp, List.foldl_append, hf]
            rfl
          have htl := HBD.out.2 _ (List.getElem_mem hp)
          have HP := Lib.hid hp
          clear hf
          generalize G[k] = q at *
          obtain ⟨kd, dp, tx, ur, ti⟩ := q
          dsimp only at *
          unfold pStep at hfk
          dsimp only at hfk
          by_cases e4 : kd = 4
          · rw [if_pos e4] at hfk
            have HF := Lib.hid hfk
            clear hfk
            go_wp2
            go_roundw
            case rel => exact ⟨k + 1, x + 1, y, z, by go_num, HP.out, by go_num, rfl, rfl, HF.out, by omega, trivial⟩
            case measure => have := HP.out; simp [intOf]; omega
          · by_cases e3 : kd = 3
            · rw [if_neg e4, if_pos e3] at hfk
              have HF := Lib.hid hfk
              clear hfk
              go_wp2
              go_roundw
              case rel => exact ⟨k + 1, x, y + 1, z, by go_num, HP.out, rfl, by go_num, rfl, HF.out, by omega, trivial⟩
              case measure => have := HP.out; simp [intOf]; omega
            · by_cases e1 : kd = 1
              · subst e1
                rw [if_neg e4, if_neg e3] at hfk
                by_cases et : tx = a3.data.toList
                · have etb : (⟨tx.toArray⟩ : ByteArray) = a3 := by rw [et]
                  by_cases ed : dp = x + y
                  · rw [if_neg (by simp [et, ed])] at hfk
                    have HF := Lib.hid hfk
                    clear hfk et
                    rw [etb] at c2
                    clear etb
                    go_wp2
                    go_roundw
                    case rel => exact ⟨k + 1, x, y, z, by go_num, HP.out, rfl, rfl, rfl, HF.out, by omega, trivial⟩
                    case measure => have := HP.out; simp [intOf]; omega
                  · rw [if_pos ⟨rfl, Or.inr ed⟩] at hfk
                    have HF := Lib.hid hfk
                    have HET := Lib.hid et
                    have hsz : tx.length = a3.size := by rw [et]; rfl
                    clear hfk et
                    rw [etb] at c2
                    clear etb
                    rw [hsz] at HF htl
                    clear hsz
                    go_wp2
                    go_roundw
                    case rel => exact ⟨k + 1, x, y, z + a3.size, by go_num, HP.out, rfl, rfl, by go_num, HF.out, by omega, trivial⟩
                    case measure => have := HP.out; simp [intOf]; omega
                · have etb : ¬ (⟨tx.toArray⟩ : ByteArray).toList = a3.toList := fun h => et (by rw [ByteArray.toList_eq, ByteArray.toList_eq] at h; simpa using h)
                  rw [if_pos ⟨rfl, Or.inl et⟩] at hfk
                  have hsz : (⟨tx.toArray⟩ : ByteArray).size = tx.length := rfl
                  have HF := Lib.hid hfk
                  clear hfk et
                  generalize (⟨tx.toArray⟩ : ByteArray) = tb at *
                  rw [← hsz] at HF htl
                  clear hsz
                  go_wp2
                  go_roundw
                  case rel => exact ⟨k + 1, x, y, z + tb.size, by go_num, HP.out, rfl, rfl, by go_num, HF.out, by omega, trivial⟩
                  case measure => have := HP.out; simp [intOf]; omega
              · rw [if_neg e4, if_neg e3, if_neg (fun h => e1 h.1)] at hfk
                have HF := Lib.hid hfk
                clear hfk
                go_wp2
                go_roundw
                case rel => exact ⟨k + 1, x, y, z, by go_num, HP.out, rfl, rfl, rfl, HF.out, by omega, trivial⟩
                case measure => have := HP.out; simp [intOf]; omega
        · obtain rfl : k = G.length := by omega
          rw [List.take_length, HC.out] at hf
          have hf1 := (Prod.mk.inj hf).1
          have hf2 := (Prod.mk.inj (Prod.mk.inj hf).2).1
          have hf3 := (Prod.mk.inj (Prod.mk.inj hf).2).2
          subst hf1 hf2 hf3
          clear hf hk hp hxyz
          have hpos : 0 < a3.size := by
            have h9 : a3.data.toList.length = a3.size := rfl
            rcases Nat.eq_zero_or_pos a3.data.toList.length with h8 | h8
            · exact absurd (List.eq_nil_of_length_eq_zero h8) hne
            · omega
          have hlf2 : (n = m ∨ ¬ ((a3[0]'hpos).toNat : Int) = 95) → lf = n + m - 2 * min n m := fun h => HL.out (h.imp id fun h2 h3 => h2 (by
            have h4 : a3.data.toList[0]? = some 95 := by rw [← List.head?_eq_getElem?]; exact h3
            have h5 : a3.data[0]? = some 95 := by simpa using h4
            obtain ⟨_, h6⟩ := Array.getElem?_eq_some_iff.1 h5
            show ((a3.data[0]).toNat : Int) = 95
            rw [h6]
            rfl))
          have HLF := Lib.hid hlf2
          have hs0 : (0 : Int) < a3.size := by omega
          clear hlf2 HL HC HBD
          rcases (by omega : n = m ∨ n < m ∨ m < n) with e | e | e
          · subst e
            rw [Nat.min_self]
            have hz : (lf : Int) = n + n - 2 * n := by have := HLF.out (Or.inl rfl); rw [Nat.min_self] at this; omega
            clear HLF
            go_wp2
            all_goals (go_ret; exact ⟨ret_bool (by simp_all), HB2.out⟩)
          · have hm1 : min n m = n := Nat.min_eq_left (by omega)
            have hm2 : min (n : Int) m = n := by omega
            have hm3 : ((n : Int) == m) = false := by simp; omega
            have hm4 : ¬ (n : Int) = m := by omega
            rw [hm1]
            by_cases hq : ((a3[0]'hpos).toNat : Int) = 95
            · have hq' : ((95 : Int) != ((a3[0]'hpos).toNat : Int)) = false := by rw [hq]; rfl
              clear HLF
              go_wp2
              all_goals (go_ret; exact ⟨ret_bool (by simp_all), HB2.out⟩)
            · have hq' : ((95 : Int) != ((a3[0]'hpos).toNat : Int)) = true := by simpa using (fun h => hq h.symm)
              have hz : (lf : Int) = n + m - 2 * n := by have := HLF.out (Or.inr hq); rw [hm1] at this; omega
              clear HLF
              go_wp2
              all_goals (go_ret; exact ⟨ret_bool (by simp_all), HB2.out⟩)
          · have hm1 : min n m = m := Nat.min_eq_right (by omega)
            have hm2 : min (n : Int) m = m := by omega
            have hm3 : ((n : Int) == m) = false := by simp; omega
            have hm4 : ¬ (n : Int) = m := by omega
            rw [hm1]
            by_cases hq : ((a3[0]'hpos).toNat : Int) = 95
            · have hq' : ((95 : Int) != ((a3[0]'hpos).toNat : Int)) = false := by rw [hq]; rfl
              clear HLF
              go_wp2
              all_goals (go_ret; exact ⟨ret_bool (by simp_all), HB2.out⟩)
            · have hq' : ((95 : Int) != ((a3[0]'hpos).toNat : Int)) = true := by simpa using (fun h => hq h.symm)
              have hz : (lf : Int) = n + m - 2 * m := by have := HLF.out (Or.inr hq); rw [hm1] at this; omega
              clear HLF
              go_wp2
              all_goals (go_ret; exact ⟨ret_bool (by simp_all), HB2.out⟩)
    | false =>
      go_wp2_with fail
      refine (group3_any (g := w1.heap.size) (g' := w1.heap.size + 1) (opn 42 n n) (cls 42 m m) a3.data.toList _ (by rw [Lib.mk_data]; exact (Below.heap_alloc _ _ _ (by simp)).trans (heap_alloc_new _ _)) (heap_alloc2_new _ _ _) ⟨by show (42 : UInt8) ≠ 0; decide, rfl, by show (0 : Int) ≤ n; omega, by show (n : Int) ≤ 1000; omega, rfl⟩ ⟨by show (42 : UInt8) ≠ 0; decide, rfl, by show (0 : Int) ≤ m; omega, by show (m : Int) ≤ 1000; omega, rfl⟩ (by have : a3.data.toList.length = a3.size := rfl; omega)).mono ?_
      rintro e w2 ⟨⟨v, rfl, ho⟩, b2⟩
      have hB2 := ((HB1.out.alloc HB1.out.size _).alloc (by have := HB1.out.size; simp; omega) _).trans (b2.mono (by have := HB1.out.size; simp; omega))
      rw [pairs_plain 42 (by decide) n m (by omega) (by omega) (by omega) a3.data.toList hne] at ho
      obtain ⟨lf, hcnt, hlf⟩ := pairs_count 42 n m (by omega) (by omega) a3.data.toList
      have hbd : (rowI 42 (n - min n m) ++ chainI (pairK (min n m)) a3.data.toList ++ rowI 42 (m - min n m)).length ≤ 100 ∧ ∀ x ∈ (rowI 42 (n - min n m) ++ chainI (pairK (min n m)) a3.data.toList ++ rowI 42 (m - min n m)), x.txt.length ≤ 100 := g_bound 42 n m a3.data.toList (by omega) (by omega) (by have : a3.data.toList.length = a3.size := rfl; omega)
      generalize (rowI 42 (n - min n m) ++ chainI (pairK (min n m)) a3.data.toList ++ rowI 42 (m - min n m)) = G at *
      obtain ⟨A1, k1, rfl, hG⟩ := EltsAt.own ilC_length ho
      have hgl : G.length ≤ 9223372036854775807 := by have h1 := hG.le; have h2 := hG.cap; unfold maxLen at h2; omega
      have HB2 := Lib.hid hB2
      have HBD := Lib.hid hbd
      have hgl2 : G.length ≤ 100 := hbd.1
      have HGG := Lib.hid hG
      clear hbd hG
      have HC := Lib.hid hcnt
      have HL := Lib.hid hlf
      clear hB2 b2 ho hcnt hlf
      go_wp2_with fail
      go_loopw [12, 13, 14, 62] (fun a b l i wr => ∃ (k x y z : Nat), i = .int .i64 k ∧ k ≤ G.length ∧ a = .int .i64 x ∧ b = .int .i64 y ∧ l = .int .i64 z ∧ (G.take k).foldl (pStep a3.data.toList) (0, 0, 0) = (x, y, z) ∧ (x ≤ k ∧ y ≤ k ∧ z ≤ 100 * k) ∧ wr = w2) (fun _ _ _ i _ => G.length - (intOf i).toNat)
      case atStart => exact ⟨0, 0, 0, 0, rfl, Nat.zero_le _, rfl, rfl, rfl, rfl, ⟨Nat.le_refl _, Nat.le_refl _, Nat.le_refl _⟩, rfl⟩
      case round =>
        obtain ⟨k, x, y, z, rfl, hk, rfl, rfl, rfl, hf, hxyz, hw⟩ := hrel
        obtain rfl : w2 = wr := hw.symm
        by_cases hp : k < G.length
        · obtain ⟨b, off, e, hb, c0, c1, c2, c3, c4⟩ := InlsAt.cells5 HGG.out hp
          subst e
          have hfk : (G.take (k + 1)).foldl (pStep a3.data.toList) (0, 0, 0) = pStep a3.data.toList (x, y, z) G[k] := by
            rw [List.take_succ_eq_append_getElem hp, List.foldl_append, hf]
            rfl
          have htl := HBD.out.2 _ (List.getElem_mem hp)
          have HP := Lib.hid hp
          clear hf
          generalize G[k] = q at *
          obtain ⟨kd, dp, tx, ur, ti⟩ := q
          dsimp only at *
          unfold pStep at hfk
          dsimp only at hfk
          by_cases e4 : kd = 4
          · rw [if_pos e4] at hfk
            have HF := Lib.hid hfk
            clear hfk
            go_wp2
            go_roundw
            case rel => exact ⟨k + 1, x + 1, y, z, by go_num, HP.out, by go_num, rfl, rfl, HF.out, by omega, trivial⟩
            case measure => have := HP.out; simp [intOf]; omega
          · by_cases e3 : kd = 3
            · rw [if_neg e4, if_pos e3] at hfk
              have HF := Lib.hid hfk
              clear hfk
              go_wp2
              go_roundw
              case rel => exact ⟨k + 1, x, y + 1, z, by go_num, HP.out, rfl, by go_num, rfl, HF.out, by omega, trivial⟩
              case measure => have := HP.out; simp [intOf]; omega
            · by_cases e1 : kd = 1
              · subst e1
                rw [if_neg e4, if_neg e3] at hfk
                by_cases et : tx = a3.data.toList
                · have etb : (⟨tx.toArray⟩ : ByteArray) = a3 := by rw [et]
                  by_cases ed : dp = x + y
                  · rw [if_neg (by simp [et, ed])] at hfk
                    have HF := Lib.hid hfk
                    clear hfk et
                    rw [etb] at c2
                    clear etb
                    go_wp2
                    go_roundw
                    case rel => exact ⟨k + 1, x, y, z, by go_num, HP.out, rfl, rfl, rfl, HF.out, by omega, trivial⟩
                    case measure => have := HP.out; simp [intOf]; omega
                  · rw [if_pos ⟨rfl, Or.inr ed⟩] at hfk
                    have HF := Lib.hid hfk
                    have HET := Lib.hid et
                    have hsz : tx.length = a3.size := by rw [et]; rfl
                    clear hfk et
                    rw [etb] at c2
                    clear etb
                    rw [hsz] at HF htl
                    clear hsz
                    go_wp2
                    go_roundw
                    case rel => exact ⟨k + 1, x, y, z + a3.size, by go_num, HP.out, rfl, rfl, by go_num, HF.out, by omega, trivial⟩
                    case measure => have := HP.out; simp [intOf]; omega
                · have etb : ¬ (⟨tx.toArray⟩ : ByteArray).toList = a3.toList := fun h => et (by rw [ByteArray.toList_eq, ByteArray.toList_eq] at h; simpa using h)
                  rw [if_pos ⟨rfl, Or.inl et⟩] at hfk
                  have hsz : (⟨tx.toArray⟩ : ByteArray).size = tx.length := rfl
                  have HF := Lib.hid hfk
                  clear hfk et
                  generalize (⟨tx.toArray⟩ : ByteArray) = tb at *
                  rw [← hsz] at HF htl
                  clear hsz
                  go_wp2
                  go_roundw
                  case rel => exact ⟨k + 1, x, y, z + tb.size, by go_num, HP.out, rfl, rfl, by go_num, HF.out, by omega, trivial⟩
                  case measure => have := HP.out; simp [intOf]; omega
              · rw [if_neg e4, if_neg e3, if_neg (fun h => e1 h.1)] at hfk
                have HF := Lib.hid hfk
                clear hfk
                go_wp2
                go_roundw
                case rel => exact ⟨k + 1, x, y, z, by go_num, HP.out, rfl, rfl, rfl, HF.out, by omega, trivial⟩
                case measure => have := HP.out; simp [intOf]; omega
        · obtain rfl : k = G.length := by omega
          rw [List.take_length, HC.out] at hf
          have hf1 := (Prod.mk.inj hf).1
          have hf2 := (Prod.mk.inj (Prod.mk.inj hf).2).1
          have hf3 := (Prod.mk.inj (Prod.mk.inj hf).2).2
          subst hf1 hf2 hf3
          clear hf hk hp hxyz
          have hpos : 0 < a3.size := by
            have h9 : a3.data.toList.length = a3.size := rfl
            rcases Nat.eq_zero_or_pos a3.data.toList.length with h8 | h8
            · exact absurd (List.eq_nil_of_length_eq_zero h8) hne
            · omega
          have hlf2 : (n = m ∨ ¬ ((a3[0]'hpos).toNat : Int) = 42) → lf = n + m - 2 * min n m := fun h => HL.out (h.imp id fun h2 h3 => h2 (by
            have h4 : a3.data.toList[0]? = some 42 := by rw [← List.head?_eq_getElem?]; exact h3
            have h5 : a3.data[0]? = some 42 := by simpa using h4
            obtain ⟨_, h6⟩ := Array.getElem?_eq_some_iff.1 h5
            show ((a3.data[0]).toNat : Int) = 42
            rw [h6]
            rfl))
          have HLF := Lib.hid hlf2
          have hs0 : (0 : Int) < a3.size := by omega
          clear hlf2 HL HC HBD
          rcases (by omega : n = m ∨ n < m ∨ m < n) with e | e | e
          · subst e
            rw [Nat.min_self]
            have hz : (lf : Int) = n + n - 2 * n := by have := HLF.out (Or.inl rfl); rw [Nat.min_self] at this; omega
            clear HLF
            go_wp2
            all_goals (go_ret; exact ⟨ret_bool (by simp_all), HB2.out⟩)
          · have hm1 : min n m = n := Nat.min_eq_left (by omega)
            have hm2 : min (n : Int) m = n := by omega
            have hm3 : ((n : Int) == m) = false := by simp; omega
            have hm4 : ¬ (n : Int) = m := by omega
            rw [hm1]
            by_cases hq : ((a3[0]'hpos).toNat : Int) = 42
            · have hq' : ((42 : Int) != ((a3[0]'hpos).toNat : Int)) = false := by rw [hq]; rfl
              clear HLF
              go_wp2
              all_goals (go_ret; exact ⟨ret_bool (by simp_all), HB2.out⟩)
            · have hq' : ((42 : Int) != ((a3[0]'hpos).toNat : Int)) = true := by simpa using (fun h => hq h.symm)
              have hz : (lf : Int) = n + m - 2 * n := by have := HLF.out (Or.inr hq); rw [hm1] at this; omega
              clear HLF
              go_wp2
              all_goals (go_ret; exact ⟨ret_bool (by simp_all), HB2.out⟩)
          · have hm1 : min n m = m := Nat.min_eq_right (by omega)
            have hm2 : min (n : Int) m = m := by omega
            have hm3 : ((n : Int) == m) = false := by simp; omega
            have hm4 : ¬ (n : Int) = m := by omega
            rw [hm1]
            by_cases hq : ((a3[0]'hpos).toNat : Int) = 42
            · have hq' : ((42 : Int) != ((a3[0]'hpos).toNat : Int)) = false := by rw [hq]; rfl
              clear HLF
              go_wp2
              all_goals (go_ret; exact ⟨ret_bool (by simp_all), HB2.out⟩)
            · have hq' : ((42 : Int) != ((a3[0]'hpos).toNat : Int)) = true := by simpa using (fun h => hq h.symm)
              have hz : (lf : Int) = n + m - 2 * m := by have := HLF.out (Or.inr hq); rw [hm1] at this; omega
              clear HLF
              go_wp2
              all_goals (go_ret; exact ⟨ret_bool (by simp_all), HB2.out⟩)
  · go_enter Try.func4, Try.ntmps4
    go_wp2_with fail
    all_goals (refine hal.mono ?_; rintro e w' ⟨rfl, b⟩; go_wp2)
    all_goals (first | (go_ret; exact ⟨rfl, b⟩) | (exfalso; rename_i q1 q2 q3 q4 q5 q6; apply hin; simp_all; omega) | (trace_state; sorry))

end Go.Proofs.Ytmgcfmcpagegmaa
