/-
  RepairLines' walk.
-/
import Derived.Test.YtdiolfahccfpgaaRepairL
namespace Go.Proofs.Ytdiolfahccfpgaa
open Go.RowKit
set_option linter.unusedSimpArgs false
set_option linter.unusedVariables false

def NextOk (z0 : List ByteArray) (z1 : List Int) (k last : Nat) : Prop := ∀ h : k < z0.length, last = 13 → lst z0[k] = [] → endAt z1 k ≠ 0
def LinesRel (W1 : World) (z0 : List ByteArray) (z1 : List Int) (k : Nat) (b want : Value) (wr : World) : Prop :=
  ∃ (B Wn : ByteArray) (last : Nat), b = .string B ∧ want = .string Wn ∧ B.size ≤ 42 * k ∧ Wn.size ≤ 41 * k ∧ InvT (lst B) (lst Wn) last ∧ NextOk z0 z1 k last ∧ Below W1.heap.size W1 wr
def PrintTo (x : ByteArray) (j : Nat) : Prop := ∀ i (h : i < x.size), i < j → 32 ≤ x[i].toNat ∧ x[i].toNat < 127
theorem printTo_all {x : ByteArray} (h : PrintTo x x.size) : Printable (lst x) := by
  intro b hb
  obtain ⟨i, hi, rfl⟩ := List.getElem_of_mem hb
  have hi' : i < x.size := by simpa [lst] using hi
  exact h i hi' hi'
theorem tmod3 (z : Int) : -2 ≤ z.tmod 3 ∧ z.tmod 3 ≤ 2 := by
  have h := Int.tmod_eq_emod (a := z) (b := 3)
  rw [h]
  split <;> simp <;> omega
theorem enI_spelt (z : Int) : (z.tmod 3 + 3) % 3 = enI z := by
  rw [enI_eq]
  have h := Int.tmod_eq_emod (a := z) (b := 3)
  rw [h]
  split <;> simp <;> omega

theorem lines_step {W1 wr' : World} {z0 : List ByteArray} {z1 : List Int} {k last : Nat} {B Wn x : ByteArray} {e : Int} (hI : InvT (lst B) (lst Wn) last) (hX : Printable (lst x)) (hB : B.size ≤ 42 * k) (hWn : Wn.size ≤ 41 * k) (hx : x.size ≤ 40)
    (he : endAt z1 k = e) (hN2 : last = 13 → lst x = [] → endAt z1 k ≠ 0) (E : ByteArray) (hE : lst E = endB e) (hEs : E.size ≤ 2) (hN : NextOk z0 z1 (k + 1) (endLast e)) (hbw : Below W1.heap.size W1 wr') :
    LinesRel W1 z0 z1 (k + 1) (.string (B ++ (x ++ E))) (.string (Wn ++ (x ++ ⟨#[10]⟩))) wr' := by
  have hb := endAt_bd z1 k
  refine ⟨_, _, endLast e, rfl, rfl, ?_, ?_, ?_, hN, hbw⟩
  · rw [app_size, app_size]; omega
  · rw [app_size, app_size, show (ByteArray.mk #[10]).size = 1 from rfl]; omega
  · rw [lst_app, lst_app, lst_app, lst_app, hE]
    exact invT_step hI hX (by omega) (by omega) (fun a b => by rw [← he]; exact hN2 a b)

set_option maxHeartbeats 4000000 in
set_option maxRecDepth 100000 in
theorem repairLines_walk (w : World) (A0 : Option Addr) (c0 : Nat) (z0 : List ByteArray) (r0 : RowOf w A0 c0 (z0.map Value.string)) (w0 : ∀ s ∈ z0, s.size ≤ maxLen) (A1 : Option Addr) (c1 : Nat) (z1 : List Int) (r1 : RowOf w A1 c1 (z1.map (Value.int .i64))) (w1 : ∀ n ∈ z1, (Lit.int .i64 n).wf = true) :
    Calls Try.prog 4 #[.slice A0 z0.length c0, .slice A1 z1.length c1] w fun e w' => e = .returned (.bool true) ∧ Below w.heap.size w w' := by
  have hm0 : z0.length ≤ maxLen := by have := r0.1; have := r0.2.1; simp at *; omega
  have hm1 : z1.length ≤ maxLen := by have := r1.1; have := r1.2.1; simp at *; omega
  unfold maxLen at hm0 hm1
  clear w1
  by_cases hl : 20 < z0.length
  · clear r0 r1 w0
    go_enter Try.func4, Try.ntmps4
    go_wp2_with (go_at_call 8; refine (alive_any _).mono ?_; rintro e w3 ⟨rfl, b1⟩)
    go_ret
    exact ⟨rfl, by assumption⟩
  · by_cases hl1 : 20 < z1.length
    · clear r0 r1 w0
      go_enter Try.func4, Try.ntmps4
      go_wp2_with (go_at_call 8; refine (alive_any _).mono ?_; rintro e w3 ⟨rfl, b1⟩)
      go_ret
      exact ⟨rfl, by assumption⟩
    · have R0 := Lib.hid r0
      have R1 := Lib.hid r1
      have W0 := Lib.hid w0
      clear r0 r1 w0
      go_enter Try.func4, Try.ntmps4
      go_wp2_with fail
      refine (alive_any _).mono ?_
      rintro e W1 ⟨rfl, b1⟩
      have R0 := Lib.hid (R0.out.below b1)
      have R1 := Lib.hid (R1.out.below b1)
      go_wp2_with fail
      go_loopw [5, 6, 26] (fun b want i wr => ∃ k : Nat, k ≤ z0.length ∧ i = .int .i64 k ∧ LinesRel W1 z0 z1 k b want wr) (fun _ _ i _ => z0.length - (intOf i).toNat)
      case atStart => exact ⟨0, Nat.zero_le _, rfl, ⟨#[]⟩, ⟨#[]⟩, 0, rfl, rfl, Nat.zero_le _, Nat.zero_le _, invT_start, fun _ h => by omega, Below.refl _ _⟩
      case round =>
        obtain ⟨k, hk, rfl, B, Wn, last, rfl, rfl, hB, hWn, hI, hN, hbw⟩ := hrel
        have HI := Lib.hid hI
        have HN := Lib.hid hN
        clear hI hN
        by_cases hlt : k < z0.length
        · obtain ⟨b, off, hA0, hc⟩ := row_cell (R0.out.below hbw) (List.ne_nil_of_length_pos (by omega))
          subst hA0
          have HC := Lib.hid hc
          have hcell := hc k hlt
          have hxs : z0[k].size ≤ maxLen := W0.out _ (List.getElem_mem _)
          unfold maxLen at hxs
          have HN2 := Lib.hid (HN.out hlt)
          clear hc HN
          generalize z0[k] = x at *
          by_cases h40 : 40 < x.size
          · go_wp2
            go_ret
            exact ⟨rfl, b1.trans (hbw.mono b1.size)⟩
          · go_wp2_with fail
            clear hcell
            go_loop [9] (fun i => ∃ j : Nat, i = .int .i64 j ∧ j ≤ x.size ∧ PrintTo x j) (fun i => x.size - (intOf i).toNat)
            case atStart => exact ⟨0, rfl, Nat.zero_le _, fun _ _ h => absurd h (by omega)⟩
            case round =>
              obtain ⟨j, rfl, hj, hp⟩ := hrel
              have HP := Lib.hid hp
              clear hp
              by_cases hjx : j < x.size
              · by_cases hlo : x[j].toNat < 32
                · go_wp2
                  go_ret
                  exact ⟨rfl, b1.trans (hbw.mono b1.size)⟩
                · by_cases hhi : 127 ≤ x[j].toNat
                  · go_wp2
                    go_ret
                    exact ⟨rfl, b1.trans (hbw.mono b1.size)⟩
                  · have HP2 := Lib.hid (show PrintTo x (j + 1) from fun i h hi => by
                      by_cases e : i = j
                      · subst e; omega
                      · exact HP.out i h (by omega))
                    go_wp2
                    go_round
                    case rel => exact ⟨j + 1, by go_num, by omega, HP2.out⟩
                    case measure => simp [intOf]; omega
              · obtain rfl : j = x.size := by omega
                have HX := Lib.hid (printTo_all HP.out)
                clear HP hjx hj
                by_cases hk1 : k < z1.length
                · obtain ⟨b', off', hA1, hc'⟩ := row_cell (R1.out.below hbw) (List.ne_nil_of_length_pos (by omega))
                  subst hA1
                  have HC1 := Lib.hid hc'
                  have hcell' := hc' _ hk1
                  have ht := tmod3 z1[k]
                  have hen := enI_spelt z1[k]
                  have HE := Lib.hid (endAt_lt hk1)
                  clear hc'
                  have hcs : enI z1[k] = 0 ∨ enI z1[k] = 1 ∨ enI z1[k] = 2 := by rw [enI_eq]; omega
                  rcases hcs with h0 | h0 | h0
                  · rw [h0] at hen HE
                    clear h0
                    go_wp2
                    go_roundw
                    case rel => exact ⟨k + 1, by omega, by go_num, lines_step HI.out HX.out hB hWn (by omega) HE.out HN2.out ⟨#[10]⟩ rfl (by decide) (fun _ h => by cases h) (hbw.alloc (by have := hbw.size; omega) _)⟩
                    case measure => simp [intOf]; omega
                  · rw [h0] at hen HE
                    clear h0
                    go_wp2
                    go_roundw
                    case rel => exact ⟨k + 1, by omega, by go_num, lines_step HI.out HX.out hB hWn (by omega) HE.out HN2.out ⟨#[13, 10]⟩ rfl (by decide) (fun _ h => by cases h) (hbw.alloc (by have := hbw.size; omega) _)⟩
                    case measure => simp [intOf]; omega
                  · rw [h0] at hen HE
                    clear h0
                    have hbs : b < wr.heap.size := by have := World.block_lt_of_cell? _ _ (HC.out k hlt); exact this
                    have hbs' : b' < wr.heap.size := by have := World.block_lt_of_cell? _ _ hcell'; exact this
                    by_cases hn : k + 1 < z0.length
                    · have hcn := HC.out (k + 1) hn
                      by_cases hy : (z0[k + 1]).toList = []
                      · have hyi : (z0[k + 1]).toList.isEmpty = true := by simpa using hy
                        by_cases hk2 : k + 1 < z1.length
                        · have hcn' := HC1.out (k + 1) hk2
                          have ht2 := tmod3 z1[k + 1]
                          have hen2 := enI_spelt z1[k + 1]
                          by_cases h2 : enI z1[k + 1] = 0
                          · rw [h2] at hen2
                            clear h2
                            go_wp2
                            go_ret
                            exact ⟨rfl, b1.trans ((hbw.alloc (by have := hbw.size; omega) _).mono b1.size)⟩
                          · have hf2 : (((z1[k + 1].tmod 3 + 3) % 3) == 0) = false := by rw [hen2]; simpa using h2
                            have hf3 : ((z1[k + 1].tmod 3 % 3) == 0) = false := by rw [show z1[k + 1].tmod 3 % 3 = (z1[k + 1].tmod 3 + 3) % 3 from by omega]; exact hf2
                            have HNX := Lib.hid (show NextOk z0 z1 (k + 1) (endLast 2) from fun _ _ _ => by rw [endAt_lt hk2]; exact h2)
                            clear h2 hen2
                            go_wp2
                            go_roundw
                            case rel => exact ⟨k + 1, by omega, by go_num, lines_step HI.out HX.out hB hWn (by omega) HE.out HN2.out ⟨#[13]⟩ rfl (by decide) (HNX.out) (hbw.alloc (by have := hbw.size; omega) _)⟩
                            case measure => simp [intOf]; omega
                        · go_wp2
                          go_ret
                          exact ⟨rfl, b1.trans ((hbw.alloc (by have := hbw.size; omega) _).mono b1.size)⟩
                      · have hyi : (z0[k + 1]).toList.isEmpty = false := by simpa using hy
                        have HNX := Lib.hid (show NextOk z0 z1 (k + 1) (endLast 2) from fun _ _ he => absurd (by rw [Lib.toList_data]; exact he) hy)
                        go_wp2
                        go_roundw
                        case rel => exact ⟨k + 1, by omega, by go_num, lines_step HI.out HX.out hB hWn (by omega) HE.out HN2.out ⟨#[13]⟩ rfl (by decide) (HNX.out) (hbw.alloc (by have := hbw.size; omega) _)⟩
                        case measure => simp [intOf]; omega
                    · have HNX := Lib.hid (show NextOk z0 z1 (k + 1) (endLast 2) from fun h _ _ => absurd h hn)
                      go_wp2
                      go_roundw
                      case rel => exact ⟨k + 1, by omega, by go_num, lines_step HI.out HX.out hB hWn (by omega) HE.out HN2.out ⟨#[13]⟩ rfl (by decide) (HNX.out) (hbw.alloc (by have := hbw.size; omega) _)⟩
                      case measure => simp [intOf]; omega
                · have HE := Lib.hid (endAt_ge hk1)
                  go_wp2
                  go_roundw
                  case rel => exact ⟨k + 1, by omega, by go_num, lines_step HI.out HX.out hB hWn (by omega) HE.out HN2.out ⟨#[10]⟩ rfl (by decide) (fun _ h => by cases h) (hbw.alloc (by have := hbw.size; omega) _)⟩
                  case measure => simp [intOf]; omega
        · obtain rfl : k = z0.length := by omega
          have hf := textIs B (by omega)
          have e : textOf B = Wn := by
            unfold textOf
            have := invT_text HI.out
            unfold lst at this
            rw [this]
          rw [e] at hf
          clear hlt hk e
          go_wp2_with fail
          refine (hf _).mono ?_
          rintro e W2 ⟨rfl, b2⟩
          go_wp2
          go_ret
          have s1 := b1.size
          have s3 := hbw.size
          exact ⟨ret_bool (by simp), (b1.trans (hbw.mono (by omega))).trans (b2.mono (by omega))⟩

end Go.Proofs.Ytdiolfahccfpgaa
