/-
  Package target: begins, Safe, writeHex, Encode: what each answers, in plain words.
-/
import Derived.Test.YtkldloglpbiioaaDoorTgtA
namespace Go.Proofs.YtkldloglpbiioaaDoor
open Go.RowKit
set_option linter.unusedSimpArgs false
set_option linter.unusedVariables false

def BegRel (s sc : ByteArray) (w : World) (I : Nat) (z : Value) (wr : World) : Prop :=
  ∃ k j : Nat, z = .int .i64 j ∧ k ≤ s.size ∧ j ≤ sc.size ∧ wr.heap[I]? = some (.stringIter s k) ∧ Below w.heap.size w wr ∧ begL (s.data.toList.drop k) (sc.data.toList.drop j) = begL s.data.toList sc.data.toList
theorem begL_end (l : List UInt8) : begL l [] = true := by cases l <;> rfl
theorem begL_out (c : UInt8) (sc : List UInt8) : begL [] (c :: sc) = false := rfl
theorem begL_hid {b : UInt8} {l sc : List UInt8} (h : hidB b.toNat = true) : begL (b :: l) sc = begL l sc := by
  cases sc with
  | nil => rw [begL_end, begL_end]
  | cons c sc => rw [begL, if_pos h]
theorem begL_same {b c : UInt8} {l sc : List UInt8} (h : hidB b.toNat = false) (h2 : lowI b.toNat = c.toNat) : begL (b :: l) (c :: sc) = begL l sc := by
  rw [begL, if_neg (by simp [h]), if_pos h2]
theorem begL_other {b c : UInt8} {l sc : List UInt8} (h : hidB b.toNat = false) (h2 : ¬ lowI b.toNat = c.toNat) : begL (b :: l) (c :: sc) = false := by
  rw [begL, if_neg (by simp [h]), if_neg h2]
theorem drop_all (s : ByteArray) (k : Nat) (h : ¬ k < s.size) : s.data.toList.drop k = [] := List.drop_eq_nil_of_le (by simp; omega)

set_option maxHeartbeats 2000000 in
set_option maxRecDepth 100000 in
theorem begins_any (s sc : ByteArray) (w : World) (hc : ∀ b ∈ sc.data.toList, b.toNat < 128) (hs : s.size ≤ 70368744177664) (hz : sc.size ≤ 1000) :
    Calls Tryd.prog 16 #[.string s, .string sc] w fun e w' => e = .returned (.bool (begL s.data.toList sc.data.toList)) ∧ Below w.heap.size w w' := by
  have HC := Lib.hid hc
  clear hc
  go_enter Tryd.func16, Tryd.ntmps16
  go_wp2_with fail
  go_loopw [5] (fun z wr => BegRel s sc w w.heap.size z wr) (fun _ wr => s.size - wr.iterPos w.heap.size)
  case atStart => exact ⟨0, 0, rfl, Nat.zero_le _, Nat.zero_le _, World.iter_heap w s 0, (Below.refl _ w).alloc (Nat.le_refl _) _, by simp⟩
  case round =>
    obtain ⟨k, j, rfl, hk, hj, hit, hbw, hsz⟩ := hrel
    by_cases hp : k < s.size
    · have hnx : ∀ ty, (Instr.next (.pointer (some ⟨w.heap.size, 0, none⟩)) true ty).run Tryd.prog wr = _ := fun ty => Lib.run_next_any_at wr w.heap.size s k ty hit hp
      have hit2 := Lib.iterAt_heap wr w.heap.size s k (k + (Utf8.decode s k).2) hit
      have hbw2 := Lib.below_iterAt hbw (k := w.heap.size) (by omega) s (k + (Utf8.decode s k).2)
      have Hit := Lib.hid hit
      have HS := Lib.hid hsz
      clear hit hbw hsz
      by_cases hj2 : j < sc.size
      · have fj : ((j : Int) == (sc.size : Int)) = false := by simp; omega
        have hcj := HC.out sc[j] (by rw [List.mem_iff_getElem?]; exact ⟨j, by simp [hj2]; rfl⟩)
        have hix := index_str sc j j rfl hj2
        have HL := Lib.hid (get_list s k hp)
        have HL2 := Lib.hid (get_list sc j hj2)
        generalize sc[j] = c at *
        by_cases ha : s[k].toNat < 128
        · have hd : Utf8.decode s k = (s[k].toNat, 1) := decode_ascii s k hp ha
          rw [hd] at hnx hit2 hbw2
          simp only at hnx hit2 hbw2
          clear hd
          generalize s[k] = b at *
          have c1 := fun w => hidden_any b.toNat w
          have c2 := fun w => small_any b.toNat w (by omega) (by omega)
          cases hh : hidB b.toNat with
          | true =>
            rw [hh] at c1
            have HR := Lib.hid (show begL (s.data.toList.drop (k + 1)) (sc.data.toList.drop j) = begL s.data.toList sc.data.toList from by rw [← HS.out, HL.out, begL_hid hh])
            have C1 := Lib.hid c1
            clear hh c1 c2
            go_wp2_with (go_at_call 28; refine (C1.out _).mono ?_; rintro e w' ⟨rfl, rfl⟩)
            go_roundw
            case rel => exact ⟨k + 1, j, rfl, by omega, by omega, hit2, hbw2, HR.out⟩
            case measure => simp only [World.iterPos, hit2, Hit.out]; omega
          | false =>
            rw [hh] at c1
            have C1 := Lib.hid c1
            have hq := lowI_bd b.toNat (by omega) (by omega)
            by_cases hl : lowI b.toNat = c.toNat
            · have HR := Lib.hid (show begL (s.data.toList.drop (k + 1)) (sc.data.toList.drop (j + 1)) = begL s.data.toList sc.data.toList from by rw [← HS.out, HL.out, HL2.out, begL_same hh hl])
              rw [hl] at c2
              have C2 := Lib.hid c2
              have f2 : ((c.toNat : Int) == (c.toNat : Int)) = true := by simp
              clear hh c1 c2 hl hq
              go_wp2_with (go_at_call 28; refine (C1.out _).mono ?_; rintro e w' ⟨rfl, rfl⟩)
              go_quiet ((go_at_call 29; exact (C2.out _).mono (fun _ _ h => ⟨h.1, _, h.2.symm⟩)))
              go_wp2
              go_roundw
              case rel => exact ⟨k + 1, j + 1, by go_num, by omega, by omega, hit2, below_drewN' hbw2 _, HR.out⟩
              case measure =>
                have e2 : (((wr.iterAt w.heap.size s (k + 1)).drewN nq).heap[w.heap.size]?) = some (.stringIter s (k + 1)) := hit2
                simp only [World.iterPos, e2, Hit.out]; omega
            · have HR := Lib.hid (show begL s.data.toList sc.data.toList = false from by rw [← HS.out, HL.out, HL2.out, begL_other hh hl])
              have f2 : (lowI b.toNat == (c.toNat : Int)) = false := by simpa using hl
              have C2 := Lib.hid c2
              clear hh c1 c2 hl
              generalize lowI b.toNat = q at *
              go_wp2_with (go_at_call 28; refine (C1.out _).mono ?_; rintro e w' ⟨rfl, rfl⟩)
              go_quiet ((go_at_call 29; exact (C2.out _).mono (fun _ _ h => ⟨h.1, _, h.2.symm⟩)))
              go_wp2
              go_ret
              exact ⟨ret_bool HR.out.symm, below_drewN' hbw2 _⟩
        · obtain ⟨h1, h2⟩ := decode_high s k hp (by omega)
          have hd1 := decode_max s k
          have c1 := fun w => hidden_any (Utf8.decode s k).1 w
          rw [hidB_high (by omega)] at c1
          have c2 := fun w => small_any (Utf8.decode s k).1 w (by omega) (by omega)
          rw [lowI_high (by omega)] at c2
          have f2 : (((Utf8.decode s k).1 : Int) == (c.toNat : Int)) = false := by simp; omega
          have HR := Lib.hid (show begL s.data.toList sc.data.toList = false from by rw [← HS.out, HL.out, HL2.out, begL_high (by omega) hcj])
          have C1 := Lib.hid c1
          have C2 := Lib.hid c2
          clear c1 c2
          generalize (Utf8.decode s k).1 = r at *
          go_wp2_with (go_at_call 28; refine (C1.out _).mono ?_; rintro e w' ⟨rfl, rfl⟩)
          go_quiet ((go_at_call 29; exact (C2.out _).mono (fun _ _ h => ⟨h.1, _, h.2.symm⟩)))
          go_wp2
          go_ret
          exact ⟨ret_bool HR.out.symm, below_drewN' hbw2 _⟩
      · obtain rfl : j = sc.size := by omega
        have HR := Lib.hid (show begL s.data.toList sc.data.toList = true from by rw [← HS.out, drop_all sc _ (by omega), begL_end])
        clear hj2
        generalize (Utf8.decode s k).1 = r at *
        go_wp2
        go_ret
        exact ⟨ret_bool HR.out.symm, hbw2⟩
    · have hnx : ∀ ty, (Instr.next (.pointer (some ⟨w.heap.size, 0, none⟩)) true ty).run Tryd.prog wr = _ := fun ty => Lib.run_next_end_at wr w.heap.size s k ty hit hp
      have e : s.data.toList.drop k = [] := drop_all s k hp
      rw [e] at hsz
      by_cases hj2 : j < sc.size
      · have fj : ((j : Int) == (sc.size : Int)) = false := by simp; omega
        have HR := Lib.hid (show begL s.data.toList sc.data.toList = false from by rw [← hsz, get_list sc j hj2, begL_out])
        clear hsz e
        go_wp2
        go_ret
        exact ⟨ret_bool HR.out.symm, hbw⟩
      · have fj : ((j : Int) == (sc.size : Int)) = true := by simp; omega
        have HR := Lib.hid (show begL s.data.toList sc.data.toList = true from by rw [← hsz, drop_all sc _ hj2, begL_end])
        clear hsz e
        go_wp2
        go_ret
        exact ⟨ret_bool HR.out.symm, hbw⟩

/-! ### Safe -/
theorem barred_index : ∀ k : Nat, k < 4 → ∀ w : World, (Instr.index 37 (.agg barredCells) (.int .i64 k)).run Tryd.prog w = .ok (.string ⟨(barredL.getD k []).toArray⟩) w
  | 0, _, _ => by kernel_rfl
  | 1, _, _ => by kernel_rfl
  | 2, _, _ => by kernel_rfl
  | 3, _, _ => by kernel_rfl
  | n + 4, h, _ => by omega
theorem barred_low : ∀ k : Nat, k < 4 → ∀ b ∈ barredL.getD k [], b.toNat < 128 := by decide +kernel
theorem barred_len : ∀ k : Nat, k < 4 → (barredL.getD k []).length ≤ 1000 := by decide +kernel
def SafeRel (l : List UInt8) (w : World) (i : Value) (wr : World) : Prop :=
  ∃ k : Nat, i = .int .i64 k ∧ k ≤ 4 ∧ Below w.heap.size w wr ∧ ((barredL.drop k).any fun sc => begL l sc) = barredL.any fun sc => begL l sc
theorem barred_step (l : List UInt8) : ∀ k : Nat, k < 4 → ((barredL.drop k).any fun sc => begL l sc) = (begL l (barredL.getD k []) || ((barredL.drop (k + 1)).any fun sc => begL l sc)) := by
  intro k hk
  have hl : barredL.length = 4 := rfl
  rw [List.drop_eq_getElem_cons (by omega), List.any_cons, List.getD_eq_getElem?_getD, List.getElem?_eq_getElem (by omega), Option.getD_some]

set_option maxHeartbeats 1000000 in
theorem safe_any (s : ByteArray) (w : World) (hn : BarredIs w) (hs : s.size ≤ 70368744177664) :
    Calls Tryd.prog 10 #[.string s] w fun e w' => e = .returned (.bool (safeL s.data.toList)) ∧ Below w.heap.size w w' := by
  obtain ⟨t, fr, hg⟩ := hn
  go_enter Tryd.func10, Tryd.ntmps10
  go_wp2_with (refine wpList_load_row rfl 37 _ rfl 0 rfl t barredCells fr _ hg Tryd.underlying37 rfl (by kernel_rfl) ?_)
  go_loopw [6] (fun i wr => SafeRel s.data.toList w i wr) (fun i _ => 4 - (intOf i).toNat)
  case atStart => exact ⟨0, rfl, Nat.zero_le _, Below.refl _ _, rfl⟩
  case round =>
    obtain ⟨k, rfl, hk, hbw, hf⟩ := hrel
    by_cases hp : k < 4
    · have hx := barred_index k hp
      have cb := fun w => begins_any s ⟨(barredL.getD k []).toArray⟩ w (by exact barred_low k hp) hs (by rw [str_size]; exact barred_len k hp)
      rw [show (⟨(barredL.getD k []).toArray⟩ : ByteArray).data.toList = barredL.getD k [] from rfl] at cb
      have hst := barred_step s.data.toList k hp
      rw [hf] at hst
      cases hb : begL s.data.toList (barredL.getD k []) with
      | true =>
        rw [hb] at cb hst
        have HR := Lib.hid (show safeL s.data.toList = false from by unfold safeL; rw [hst]; rfl)
        have CB := Lib.hid cb
        clear hf hst cb hb
        generalize barredL.getD k [] = sc at *
        go_wp2_with (go_at_call 16; refine (CB.out _).mono ?_; rintro e w1 ⟨rfl, b1⟩)
        go_ret
        exact ⟨ret_bool HR.out.symm, hbw.trans (b1.mono hbw.size)⟩
      | false =>
        rw [hb, Bool.false_or] at hst
        rw [hb] at cb
        have HR := Lib.hid hst.symm
        have CB := Lib.hid cb
        clear hf hst cb hb
        generalize barredL.getD k [] = sc at *
        go_wp2_with (go_at_call 16; refine (CB.out _).mono ?_; rintro e w1 ⟨rfl, b1⟩)
        go_roundw
        case rel => exact ⟨k + 1, by go_num, by omega, hbw.trans (b1.mono hbw.size), HR.out⟩
        case measure => simp [intOf]; omega
    · obtain rfl : k = 4 := by omega
      have HR := Lib.hid (show safeL s.data.toList = true from by unfold safeL; rw [← hf]; rfl)
      clear hf
      go_wp2
      go_ret
      exact ⟨ret_bool HR.out.symm, hbw⟩

end Go.Proofs.YtkldloglpbiioaaDoor
