/-
  HeadingLabels: a heading's label is at its end, of the signs that it may have; with another sign it is none; the law's walk.
-/
import Derived.Test.YtodnioihadpncaaDoorHdgP
import Derived.Laws.BytesArg
import Derived.Laws.IdiomStrings
namespace Go.Proofs.YtodnioihadpncaaDoor
open Go.RowKit
set_option linter.unusedSimpArgs false
set_option linter.unusedVariables false
set_option maxRecDepth 100000

def LetRel (X : ByteArray) (w : World) (i : Value) (wr : World) : Prop := ∃ k : Nat, i = .int .i64 k ∧ k ≤ X.size ∧ (∀ m (h : m < X.size), m < k → 97 ≤ X[m].toNat ∧ X[m].toNat ≤ 122) ∧ wr = w
def TwoRel (a b : ByteArray) (w : World) (i : Value) (wr : World) : Prop := ∃ k : Nat, i = .int .i64 k ∧ k ≤ 2 ∧ (0 < k → Letters a) ∧ (1 < k → Letters b) ∧ wr = w
/-- A text that is made of one sign, again and again, behind another one. -/
def SgnRel (pre : Txt) (c : UInt8) (n : Nat) (w : World) (v i : Value) (wr : World) : Prop := ∃ (k : Nat) (U : ByteArray), i = .int .i64 k ∧ k ≤ n ∧ v = .string U ∧ U.data.toList = pre ++ List.replicate k c ∧ wr = w
theorem sgn_step {U : ByteArray} {pre : Txt} {c : UInt8} {k : Nat} (h : U.data.toList = pre ++ List.replicate k c) : (U ++ (⟨#[c]⟩ : ByteArray)).data.toList = pre ++ List.replicate (k + 1) c := by
  rw [ByteArray.data_append, Array.toList_append, h, List.replicate_succ', List.append_assoc]
theorem sgn_size {U : ByteArray} {l : Txt} (h : U.data.toList = l) : U.size = l.length := by rw [← h]; simp
/-- The three lines, as lists. -/
theorem hd_cat1 (S L : ByteArray) : (((S ++ (⟨#[123, 61]⟩ : ByteArray)) ++ L) ++ (⟨#[125, 32, 32]⟩ : ByteArray)).data.toList = S.data.toList ++ headB ++ (L.data.toList ++ [125, 32, 32]) := by simp [headB]
theorem hd_cat2 (S L : ByteArray) : (((S ++ (⟨#[123, 61]⟩ : ByteArray)) ++ L) ++ (⟨#[125, 32, 120]⟩ : ByteArray)).data.toList = S.data.toList ++ headB ++ (L.data.toList ++ [125, 32, 120]) := by simp [headB]
theorem hd_cat3 (S L : ByteArray) (b : UInt8) : ((((S ++ (⟨#[123, 61]⟩ : ByteArray)) ++ L) ++ (⟨#[b]⟩ : ByteArray)) ++ (⟨#[125]⟩ : ByteArray)).data.toList = S.data.toList ++ headB ++ (L.data.toList ++ [b, 125]) := by simp [headB]

theorem conv1 (w : World) (v : Int) (h0 : 0 ≤ v) (h1 : v ≤ 255) :
    (convert 42 9 (.slice (some ⟨w.heap.size, 0, none⟩) 1 1)).run Tryd.prog (w.alloc (.cells #[.int .u8 v] 5)) = .ok (.string ⟨#[v.toNat.toUInt8]⟩) (w.alloc (.cells #[.int .u8 v] 5)) := by
  exact run_convert_bytes_back (w.alloc (.cells #[.int .u8 v] 5)) 42 9 5 ⟨w.heap.size, 0, none⟩ 1 [v.toNat.toUInt8] Tryd.underlying42 Tryd.underlying5 Tryd.underlying9 (fun j hj => by
    simp only [List.length_cons, List.length_nil] at hj
    obtain rfl : j = 0 := by omega
    have e : ((v.toNat.toUInt8).toNat : Int) = v := by
      rw [Nat.toUInt8_eq, UInt8.toNat_ofNat']
      omega
    show _ = some (Value.int .u8 ((v.toNat.toUInt8).toNat : Int))
    rw [e]
    simp [Addr.add])

set_option maxHeartbeats 16000000 in
theorem headingLabels_short (w : World) (hml : MaxL w) (n bl : Nat) (a2 a3 : ByteArray) (v : Int) (h1 : 1 ≤ n) (h8 : n ≤ 8) (h5 : bl ≤ 5) (h40 : a2.size ≤ 40) (l1 : 1 ≤ a3.size) (l40 : a3.size ≤ 40) (v0 : 0 ≤ v) (v1 : v ≤ 255) :
    Calls Tryd.prog 8 #[.int .i64 n, .int .i64 bl, .string a2, .string a3, .int .u8 v] w fun e w' => e = .returned (.bool true) ∧ Below w.heap.size w w' := by
  have HML := Lib.hid hml
  clear hml
  go_enter Tryd.func8, Tryd.ntmps8
  go_wp2_with fail
  refine (alive6_any _ HML.out).mono ?_
  rintro e w1 ⟨rfl, b1⟩
  have b2 : Below w.heap.size w (w1.alloc (.cells #[.string a2, .string a3] 9)) := b1.then ((Below.refl _ w1).alloc (Nat.le_refl _) _)
  have q0 : (w1.alloc (.cells #[.string a2, .string a3] 9)).cell? ⟨w1.heap.size, 0, none⟩ = some (.string a2) := by rw [cell_of_row _ _ 0 _ _ (0, 0) (heap_alloc_new w1 _)]; rfl
  have q1 : (w1.alloc (.cells #[.string a2, .string a3] 9)).cell? ⟨w1.heap.size, 1, none⟩ = some (.string a3) := by rw [cell_of_row _ _ 1 _ _ (0, 0) (heap_alloc_new w1 _)]; rfl
  go_wp2_with fail
  generalize w1.alloc (.cells #[.string a2, .string a3] 9) = wA at *
  go_loopw [66] (fun i wr => TwoRel a2 a3 wA i wr) (fun i _ => 2 - (intOf i).toNat)
  case atStart => exact ⟨0, rfl, by omega, fun h => absurd h (by omega), fun h => absurd h (by omega), rfl⟩
  case round =>
    obtain ⟨k, rfl, hk, n0, n1, hwe⟩ := hrel
    have hwe := hwe.symm
    subst hwe
    have N0 := Lib.hid n0
    have N1 := Lib.hid n1
    clear n0 n1
    by_cases hk3 : k = 2
    · subst hk3
      have m2 := N0.out (by omega)
      have m3 := N1.out (by omega)
      have hlab := m3.lab l1 l40
      have hno : ∀ b ∈ a3.data.toList, b ≠ 123 := by
        intro b hb e
        have := (m3.all b hb).2
        rw [e] at this
        exact absurd this (by decide)
      have hsg : a3.data.toList.all labSign = true := by rw [List.all_eq_true]; exact fun b hb => letter_sign (m3.all b hb)
      have HLab := Lib.hid hlab
      have HNo := Lib.hid hno
      have HSg := Lib.hid hsg
      clear m2 m3 hlab hno hsg q0 q1
      go_wp2_with fail
      go_loopw [14, 15] (fun v i wr => SgnRel [] 32 bl wA v i wr) (fun _ i _ => bl - (intOf i).toNat)
      case atStart => exact ⟨0, ⟨#[]⟩, rfl, Nat.zero_le _, rfl, rfl, rfl⟩
      case round =>
        obtain ⟨k, U, rfl, hk, rfl, hU, hwe⟩ := hrel
        have hwe := hwe.symm
        subst hwe
        have hsz := sgn_size hU
        simp only [List.nil_append, List.length_replicate] at hsz
        by_cases hp : k < bl
        · have HST := Lib.hid (sgn_step hU)
          clear hU
          go_wp2
          exact ⟨⟨k + 1, _, by go_num, by omega, rfl, HST.out, rfl⟩, by simp [intOf]; omega⟩
        · obtain rfl : k = bl := by omega
          have HU := Lib.hid hU
          clear hU
          go_wp2_with fail
          go_loopw [14, 16] (fun v i wr => SgnRel (List.replicate k 32) 35 n wA v i wr) (fun _ i _ => n - (intOf i).toNat)
          case atStart => exact ⟨0, _, rfl, Nat.zero_le _, rfl, by rw [HU.out]; simp, rfl⟩
          case round =>
            obtain ⟨m, V, rfl, hm, rfl, hV, hwe⟩ := hrel
            have hwe := hwe.symm
            subst hwe
            have hszV := sgn_size hV
            simp only [List.length_append, List.length_replicate] at hszV
            by_cases hp2 : m < n
            · have HST := Lib.hid (sgn_step hV)
              clear hV
              go_wp2
              exact ⟨⟨m + 1, _, by go_num, by omega, rfl, HST.out, rfl⟩, by simp [intOf]; omega⟩
            · obtain rfl : m = n := by omega
              have hS : (V ++ ((⟨#[32]⟩ : ByteArray) ++ a2)).data.toList = hdS k m a2.data.toList := by
                rw [ByteArray.data_append, ByteArray.data_append, Array.toList_append, Array.toList_append, hV]
                simp [hdS]
              have hVz : V.size ≤ 13 := by omega
              have z1 : (V ++ ((⟨#[32]⟩ : ByteArray) ++ a2)).size ≤ 54 := by rw [ByteArray.size_append, ByteArray.size_append]; show _ + (1 + _) ≤ _; omega
              have z2 : ((V ++ ((⟨#[32]⟩ : ByteArray) ++ a2)) ++ (⟨#[123, 61]⟩ : ByteArray)).size ≤ 56 := by rw [ByteArray.size_append]; show _ + 2 ≤ _; omega
              have z3 : (((V ++ ((⟨#[32]⟩ : ByteArray) ++ a2)) ++ (⟨#[123, 61]⟩ : ByteArray)) ++ a3).size ≤ 96 := by rw [ByteArray.size_append]; omega
              have c1 := heading_any ((((V ++ ((⟨#[32]⟩ : ByteArray) ++ a2)) ++ (⟨#[123, 61]⟩ : ByteArray)) ++ a3) ++ (⟨#[125, 32, 32]⟩ : ByteArray)) wA (by rw [ByteArray.size_append]; show _ + 3 ≤ _; omega)
              have c2 := fun w5 => heading_any ((((V ++ ((⟨#[32]⟩ : ByteArray) ++ a2)) ++ (⟨#[123, 61]⟩ : ByteArray)) ++ a3) ++ (⟨#[125, 32, 120]⟩ : ByteArray)) w5 (by rw [ByteArray.size_append]; show _ + 3 ≤ _; omega)
              have c3 := fun w5 => heading_any (((((V ++ ((⟨#[32]⟩ : ByteArray) ++ a2)) ++ (⟨#[123, 61]⟩ : ByteArray)) ++ a3) ++ (⟨#[v.toNat.toUInt8]⟩ : ByteArray)) ++ (⟨#[125]⟩ : ByteArray)) w5 (by rw [ByteArray.size_append, ByteArray.size_append]; show _ + 1 + 1 ≤ _; omega)
              rw [hd_cat1, hS, hd_one k m h1 a2.data.toList a3.data.toList HNo.out HLab.out] at c1
              rw [hd_cat2, hS, hd_two k m h1 a2.data.toList a3.data.toList HNo.out] at c2
              rw [hd_cat3, hS, hd_three k m h1 a2.data.toList a3.data.toList _ HNo.out HSg.out] at c3
              have hS2 : (⟨(hdS k m a2.data.toList).toArray⟩ : ByteArray) = (V ++ ((⟨#[32]⟩ : ByteArray) ++ a2)) := by rw [← hS]
              have hA3 : (⟨a3.data.toList.toArray⟩ : ByteArray) = a3 := Lib.mk_data a3
              have hl3 : a3.data.toList.length = a3.size := by simp
              have hls : labSign v.toNat.toUInt8 = labI v := by
                rw [← labI_byte]
                have e : (((v.toNat.toUInt8).toNat : Nat) : Int) = v := by
                  rw [Nat.toUInt8_eq, UInt8.toNat_ofNat']
                  omega
                rw [e]
              rw [hls, hl3] at c3
              have hcv := fun W => conv1 W v v0 v1
              have C2 := Lib.hid c2
              have C3 := Lib.hid c3
              have HCV := Lib.hid hcv
              clear hV hsz hszV c2 c3 hcv hls hl3 hS z1
              by_cases hmay : k ≤ 3 ∧ m ≤ 6
              · have hM : hdMay k m = true := by unfold hdMay; simp; omega
                rw [hM, if_pos rfl] at c1
                unfold headV at c1
                dsimp only at c1
                rw [hS2, hA3] at c1
                have HMy := Lib.hid hM
                obtain ⟨hm1, hm2⟩ := hmay
                have f6 : decide ((m : Int) ≤ 6) = true := by simp; omega
                have f3 : decide ((k : Int) ≤ 3) = true := by simp; omega
                clear hM hS2 hA3
                go_wp2_with fail
                refine c1.mono ?_
                rintro e w5 ⟨rfl, b5⟩
                have q5 := b2.then b5
                have c2 := C2.out w5
                unfold headV at c2
                dsimp only at c2
                go_wp2_with fail
                refine c2.mono ?_
                rintro e w6 ⟨rfl, b6⟩
                have q6 := q5.then b6
                have hcv := HCV.out w6
                have q7 := q6.then ((Below.refl _ w6).alloc (Nat.le_refl _) (.cells #[.int .u8 v] 5))
                have c3 := C3.out (w6.alloc (.cells #[.int .u8 v] 5))
                rw [HMy.out, Bool.true_and] at c3
                by_cases hlv : v ≠ 123 ∧ v ≠ 125 ∧ v ≠ 124 ∧ v ≠ 58 ∧ v ≠ 32 ∧ v ≠ 9
                · have hli : labI v = true := by unfold labI; simp; omega
                  rw [hli, Bool.true_and] at c3
                  have g1 : (v == 123) = false := by simpa using hlv.1
                  have g2 : (v == 125) = false := by simpa using hlv.2.1
                  have g3 : (v == 124) = false := by simpa using hlv.2.2.1
                  have g4 : (v == 58) = false := by simpa using hlv.2.2.2.1
                  have g5 : (v == 32) = false := by simpa using hlv.2.2.2.2.1
                  have g6 : (v == 9) = false := by simpa using hlv.2.2.2.2.2
                  clear hli hlv
                  by_cases hz40 : a3.size < 40
                  · rw [decide_eq_true hz40, if_pos rfl] at c3
                    have fz : decide ((a3.size : Int) < 40) = true := by simp; omega
                    clear hz40
                    unfold headV at c3
                    dsimp only at c3
                    go_wp2_with fail
                    refine c3.mono ?_
                    rintro e w8 ⟨rfl, b8⟩
                    go_wp2
                    go_ret
                    exact ⟨rfl, q7.then b8⟩
                  · rw [decide_eq_false hz40, if_neg (by simp)] at c3
                    have fz : decide ((a3.size : Int) < 40) = false := by simp; omega
                    clear hz40
                    unfold headV at c3
                    dsimp only at c3
                    go_wp2_with fail
                    refine c3.mono ?_
                    rintro e w8 ⟨rfl, b8⟩
                    go_wp2
                    go_ret
                    exact ⟨rfl, q7.then b8⟩
                · have hor : v = 123 ∨ v = 125 ∨ v = 124 ∨ v = 58 ∨ v = 32 ∨ v = 9 := by omega
                  have hli : labI v = false := by
                    unfold labI
                    rcases hor with h | h | h | h | h | h <;> rw [h] <;> rfl
                  rw [hli, Bool.false_and, if_neg (by simp)] at c3
                  clear hli hlv
                  rcases hor with rfl | rfl | rfl | rfl | rfl | rfl
                  all_goals
                    unfold headV at c3
                    dsimp only at c3
                    go_wp2_with fail
                    refine c3.mono ?_
                    rintro e w8 ⟨rfl, b8⟩
                    go_wp2
                    go_ret
                    exact ⟨rfl, q7.then b8⟩
              · have hM : hdMay k m = false := by unfold hdMay; simp; omega
                rw [hM, if_neg (by simp)] at c1
                unfold headV at c1
                dsimp only at c1
                have HMy := Lib.hid hM
                have hor2 : 6 < m ∨ (m ≤ 6 ∧ 3 < k) := by omega
                clear hM hS2 hA3 hmay
                rcases hor2 with hor2 | ⟨hor2, hor3⟩
                all_goals
                  go_wp2_with fail
                  refine c1.mono ?_
                  rintro e w5 ⟨rfl, b5⟩
                  have q5 := b2.then b5
                  have c2 := C2.out w5
                  unfold headV at c2
                  dsimp only at c2
                  go_wp2_with fail
                  refine c2.mono ?_
                  rintro e w6 ⟨rfl, b6⟩
                  have q6 := q5.then b6
                  have hcv := HCV.out w6
                  have q7 := q6.then ((Below.refl _ w6).alloc (Nat.le_refl _) (.cells #[.int .u8 v] 5))
                  have c3 := C3.out (w6.alloc (.cells #[.int .u8 v] 5))
                  rw [HMy.out, Bool.false_and, if_neg (by simp)] at c3
                  by_cases hlv : v ≠ 123 ∧ v ≠ 125 ∧ v ≠ 124 ∧ v ≠ 58 ∧ v ≠ 32 ∧ v ≠ 9
                  · have g1 : (v == 123) = false := by simpa using hlv.1
                    have g2 : (v == 125) = false := by simpa using hlv.2.1
                    have g3 : (v == 124) = false := by simpa using hlv.2.2.1
                    have g4 : (v == 58) = false := by simpa using hlv.2.2.2.1
                    have g5 : (v == 32) = false := by simpa using hlv.2.2.2.2.1
                    have g6 : (v == 9) = false := by simpa using hlv.2.2.2.2.2
                    clear hlv
                    unfold headV at c3
                    dsimp only at c3
                    go_wp2_with fail
                    refine c3.mono ?_
                    rintro e w8 ⟨rfl, b8⟩
                    go_wp2
                    go_ret
                    exact ⟨rfl, q7.then b8⟩
                  · have hor : v = 123 ∨ v = 125 ∨ v = 124 ∨ v = 58 ∨ v = 32 ∨ v = 9 := by omega
                    clear hlv
                    rcases hor with rfl | rfl | rfl | rfl | rfl | rfl
                    all_goals
                      unfold headV at c3
                      dsimp only at c3
                      go_wp2_with fail
                      refine c3.mono ?_
                      rintro e w8 ⟨rfl, b8⟩
                      go_wp2
                      go_ret
                      exact ⟨rfl, q7.then b8⟩
    · have hk2 : k < 2 := by omega
      have hget : ∃ X : ByteArray, wA.cell? ⟨w1.heap.size, k, none⟩ = some (.string X) ∧ (Letters X → (0 < k + 1 → Letters a2) ∧ (1 < k + 1 → Letters a3)) ∧ X.size ≤ 40 := by
        rcases (show k = 0 ∨ k = 1 from by omega) with rfl | rfl
        · exact ⟨a2, q0, fun h => ⟨fun _ => h, fun h => absurd h (by omega)⟩, h40⟩
        · exact ⟨a3, q1, fun h => ⟨fun _ => N0.out (by omega), fun _ => h⟩, l40⟩
      obtain ⟨X, hcX, hNX, hXz⟩ := hget
      have HNX := Lib.hid hNX
      clear hNX q0 q1
      go_wp2_with fail
      go_loopw [13] (fun i wr => LetRel X wA i wr) (fun i _ => X.size - (intOf i).toNat)
      case atStart => exact ⟨0, rfl, Nat.zero_le _, fun m _ hm => absurd hm (Nat.not_lt_zero _), rfl⟩
      case round =>
        obtain ⟨m, rfl, hm, hby, hwe⟩ := hrel
        have hwe := hwe.symm
        subst hwe
        have HBy := Lib.hid hby
        clear hby
        by_cases hp : m < X.size
        · by_cases h97 : X[m].toNat < 97
          · have f1 : decide ((X[m].toNat : Int) < 97) = true := by simp; omega
            clear h97
            go_wp2
            go_ret
            exact ⟨rfl, b2⟩
          · have f1 : decide ((X[m].toNat : Int) < 97) = false := by simp; omega
            by_cases h122 : 122 < X[m].toNat
            · have f2 : decide ((122 : Int) < X[m].toNat) = true := by simp; omega
              clear h97 h122
              go_wp2
              go_ret
              exact ⟨rfl, b2⟩
            · have f2 : decide ((122 : Int) < X[m].toNat) = false := by simp; omega
              have HL := Lib.hid (show 97 ≤ X[m].toNat ∧ X[m].toNat ≤ 122 from by omega)
              clear h97 h122
              go_wp2
              refine ⟨⟨m + 1, by go_num, by omega, fun q hq hq2 => ?_, rfl⟩, by simp [intOf]; omega⟩
              by_cases e : q = m
              · subst e; exact HL.out
              · exact HBy.out q hq (by omega)
        · obtain rfl : m = X.size := by omega
          have HF := Lib.hid (HNX.out (fun q hq => HBy.out q hq hq))
          go_wp2
          exact ⟨⟨k + 1, by go_num, by omega, HF.out.1, HF.out.2, rfl⟩, by simp [intOf]; omega⟩

set_option maxHeartbeats 4000000 in
theorem headingLabels_walk (w : World) (hml : MaxL w) (a0 : Int) (w0 : (Lit.int .i64 a0).wf = true) (a1 : Int) (w1 : (Lit.int .i64 a1).wf = true) (a2 : ByteArray) (w2 : a2.size ≤ maxLen) (a3 : ByteArray) (w3 : a3.size ≤ maxLen) (a4 : Int) (w4 : (Lit.int .u8 a4).wf = true) :
    Calls Tryd.prog 8 #[.int .i64 a0, .int .i64 a1, .string a2, .string a3, .int .u8 a4] w fun e w' => e = .returned (.bool true) ∧ Below w.heap.size w w' := by
  unfold maxLen at w2 w3
  have hw4 : 0 ≤ a4 ∧ a4 ≤ 255 := by simpa [Lit.wf, IntKind.min, IntKind.max, IntKind.signed, IntKind.bits] using w4
  by_cases h : (1 ≤ a0 ∧ a0 ≤ 8) ∧ (0 ≤ a1 ∧ a1 ≤ 5) ∧ a2.size ≤ 40 ∧ 1 ≤ a3.size ∧ a3.size ≤ 40
  · obtain ⟨⟨h1, h2⟩, ⟨h3, h4⟩, h5, h6, h7⟩ := h
    obtain ⟨n, rfl⟩ : ∃ n : Nat, a0 = n := ⟨a0.toNat, by omega⟩
    obtain ⟨c, rfl⟩ : ∃ c : Nat, a1 = c := ⟨a1.toNat, by omega⟩
    exact headingLabels_short w hml n c a2 a3 a4 (by omega) (by omega) (by omega) h5 h6 h7 hw4.1 hw4.2
  · have HN := Lib.hid hml
    have hor : a0 < 1 ∨ 8 < a0 ∨ a1 < 0 ∨ 5 < a1 ∨ 40 < a2.size ∨ a3.size < 1 ∨ 40 < a3.size := by omega
    clear hml w0 w1 w4 h hw4
    rcases hor with h | h | h | h | h | h | h
    all_goals
      go_enter Tryd.func8, Tryd.ntmps8
      go_wp2_with (go_at_call 12; refine (alive6_any _ HN.out).mono ?_; rintro e w3 ⟨rfl, b2⟩)
      all_goals go_ret
      all_goals exact ⟨rfl, b2⟩

end Go.Proofs.YtodnioihadpncaaDoor
