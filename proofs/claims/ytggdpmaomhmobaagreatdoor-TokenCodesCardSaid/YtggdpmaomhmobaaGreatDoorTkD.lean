/-
  Package token: word, atom, escaped, named.
-/
import Derived.Test.YtggdpmaomhmobaaGreatDoorTkC
import Derived.Test.YtggdpmaomhmobaaGreatDoorEntB
import Derived.Test.YtggdpmaomhmobaaGreatDoorAsc
import Derived.Lib.AtoiErrMem
namespace Go.Proofs.YtggdpmaomhmobaaGreatDoor
open Go.RowKit
set_option linter.unusedSimpArgs false
set_option linter.unusedVariables false
set_option maxRecDepth 100000

/-- A token, as an interface value. -/
def tkV : Tk → Value
  | .no => .nilIface
  | .word l => .iface 42 (.string ⟨l.toArray⟩)
  | .code l => .iface 43 (.string ⟨l.toArray⟩)
  | .tag l => .iface 44 (.string ⟨l.toArray⟩)
  | .auto u t => .iface 46 (.agg #[.string ⟨u.toArray⟩, .string ⟨t.toArray⟩])
  | .run b n => .iface 48 (.agg #[.int .u8 b.toNat, .int .i64 n])
  | .mark l => .iface 50 (.agg #[.string ⟨l.toArray⟩])
  | .brk h => .iface 52 (.agg #[.bool h])
  | .atom n => .iface 54 (.agg #[.int .i64 n])
def tkR (x : Tk × Nat) : Value := .tuple #[tkV x.1, .int .i64 x.2]
theorem get0 (s : ByteArray) (h : 0 < s.size) : s.data.toList.headD 1 = s[0] := by
  have := get_list s 0 h
  rw [List.drop_zero] at this
  rw [this]; rfl
theorem ext0 (s : ByteArray) (n : Nat) : s.extract 0 n = ⟨(s.data.toList.take n).toArray⟩ := by rw [ext_bytes]; simp

theorem word_any (s : ByteArray) (h0 : 0 < s.size) (w : World) (hs : s.size ≤ 35184372088832) :
    Calls Tryz.prog 21 #[.string s] w fun e w' => e = .returned (.tuple #[.string ⟨(s.data.toList.take (wordTk s.data.toList).2).toArray⟩, .int .i64 (wordTk s.data.toList).2]) ∧ Below w.heap.size w w' := by
  have hle := pastL_le tkWord s.data.toList 1 (by rw [size_len']; exact h0)
  have hle2 := rowL_le s.data.toList (by intro e; have := size_len' s; rw [e] at this; simp at this; omega)
  rw [size_len'] at hle hle2
  have c1 := fun W => past_any s 1 33 #[] _ W hs h0 (fun _ _ => by kernel_rfl) (kWord W)
  have c2 := fun W => row_any s h0 W hs
  have HL := Lib.hid (show (wordTk s.data.toList).2 = if s.data.toList.headD 1 = 32 then rowL s.data.toList else pastL tkWord s.data.toList 1 from rfl)
  rw [get0 s h0] at HL
  have e0 := eq_byte s[0] 32
  rw [show (((32 : UInt8).toNat : Nat) : Int) = 32 from rfl] at e0
  generalize pastL tkWord s.data.toList 1 = k at *
  generalize rowL s.data.toList = z at *
  generalize (wordTk s.data.toList).2 = r at *
  by_cases h : s[0] = 32
  · have hr := HL.out
    rw [if_pos h] at hr
    have f0 : ((s[0].toNat : Int) == 32) = true := by rw [e0, h]; rfl
    subst hr
    have HX := Lib.hid (ext0 s r)
    have C1 := Lib.hid c1
    have C2 := Lib.hid c2
    clear c1 c2 HL h e0
    go_enter Tryz.func21, Tryz.ntmps21
    go_wp2_with fail
    refine (C1.out _).mono ?_
    rintro e w1 ⟨rfl, b1⟩
    go_wp2_with fail
    refine (C2.out _).mono ?_
    rintro e w2 ⟨rfl, b2⟩
    go_wp2
    go_ret2
    exact ⟨by rw [← HX.out]; rfl, b1.then b2⟩
  · have hr := HL.out
    rw [if_neg h] at hr
    have f0 : ((s[0].toNat : Int) == 32) = false := by rw [e0]; simpa using h
    subst hr
    have HX := Lib.hid (ext0 s r)
    have C1 := Lib.hid c1
    clear c1 c2 HL h e0
    go_enter Tryz.func21, Tryz.ntmps21
    go_wp2_with fail
    refine (C1.out _).mono ?_
    rintro e w1 ⟨rfl, b1⟩
    go_wp2
    go_ret2
    exact ⟨by rw [← HX.out]; rfl, b1⟩

theorem named_tk (s : ByteArray) (w : World) (hn : NamedIs w) (hs : s.size ≤ 35184372088832) :
    Calls Tryz.prog 26 #[.string s] w fun e w' => e = .returned (.tuple #[.string ⟨(atL s.data.toList).1.data.toList.toArray⟩, .int .i64 (atL s.data.toList).2]) ∧ Below w.heap.size w w' := by
  have c1 := at_any s w hn (by omega)
  unfold atRet at c1
  rw [Lib.mk_data]
  generalize atL s.data.toList = x at *
  obtain ⟨t, n⟩ := x
  simp only at c1 ⊢
  have C1 := Lib.hid c1
  clear c1 hn
  go_enter Tryz.func26, Tryz.ntmps26
  go_wp2_with fail
  refine (C1.out).mono ?_
  rintro e w1 ⟨rfl, b1⟩
  go_wp2
  go_ret2
  exact ⟨rfl, b1⟩

def atomN : Tk → Int
  | .atom n => n
  | _ => 0
def atomV (x : Tk × Nat) : Value := .tuple #[.agg #[.int .i64 (atomN x.1)], .int .i64 x.2]
set_option maxHeartbeats 1000000 in
theorem atom_any (s : ByteArray) (h0 : 0 < s.size) (w : World) (hs : s.size ≤ 35184372088832) :
    Calls Tryz.prog 24 #[.string s] w fun e w' => e = .returned (atomV (atomL s.data.toList)) ∧ Below w.heap.size w w' := by
  have hge := pastL_ge tkDigit s.data.toList 1
  have hle := pastL_le tkDigit s.data.toList 1 (by rw [size_len']; exact h0)
  rw [size_len'] at hle
  have c1 := fun W => past_any s 1 34 #[] _ W hs h0 (fun _ _ => by kernel_rfl) (kDigit W)
  have hpp := past_part tkDigit s.data.toList 1
  have HL := Lib.hid (show atomL s.data.toList = if pastL tkDigit s.data.toList 1 = 1 ∨ 5 < pastL tkDigit s.data.toList 1 ∨ hasL s.data.toList (pastL tkDigit s.data.toList 1) 0 = false then (.atom 0, 0) else (.atom ((Lib.atoi ((s.data.toList.take (pastL tkDigit s.data.toList 1)).drop 1)).getD 0), pastL tkDigit s.data.toList 1 + 1) from rfl)
  generalize pastL tkDigit s.data.toList 1 = k at *
  have c2 := fun W => has_any s k 0 W hs (by omega)
  have HB0 := Lib.hid (show Below w.heap.size w (w.alloc (.cells #[.int .i64 0] 54)) from (Below.refl _ w).alloc (Nat.le_refl _) _)
  have HZ0 := Lib.hid (oneAt_new w (.int .i64 0) 54)
  have C1 := Lib.hid c1
  clear c1
  by_cases h1 : k = 1 ∨ 5 < k
  · have HR := Lib.hid (show atomL s.data.toList = (.atom 0, 0) from by rw [HL.out, if_pos (by omega)])
    have h1' : decide ((k : Int) > 5) = true ∨ ((k : Int) == 1) = true := by
      rcases h1 with rfl | h
      · exact Or.inr rfl
      · exact Or.inl (by simp; omega)
    clear HL hpp c2
    rcases h1 with h1 | h1
    · subst h1
      clear h1'
      go_enter Tryz.func24, Tryz.ntmps24
      go_wp2_with fail
      refine (C1.out _).mono ?_
      rintro e w1 ⟨rfl, b1⟩
      have HB1 := Lib.hid (HB0.out.then b1)
      have hz1 := HZ0.out.below b1
      have HS := Lib.hid (hz1.set (.int .i64 0))
      obtain ⟨k0, k1⟩ := hz1.cells
      clear b1 hz1
      go_wp2
      (try simp only [Exit.inBlock, Exit.then])
      exact bodyPost_ret (v := atomV (.atom 0, 0)) (ret_atom rfl HS.out rfl rfl) rfl ⟨by rw [HR.out], HB1.out.setCell (Nat.le_refl _) _⟩
    · clear h1'
      have f1 : ((k : Int) == 1) = false := by simp; omega
      have f5 : decide ((k : Int) > 5) = true := by simp; omega
      go_enter Tryz.func24, Tryz.ntmps24
      go_wp2_with fail
      refine (C1.out _).mono ?_
      rintro e w1 ⟨rfl, b1⟩
      have HB1 := Lib.hid (HB0.out.then b1)
      have hz1 := HZ0.out.below b1
      have HS := Lib.hid (hz1.set (.int .i64 0))
      obtain ⟨k0, k1⟩ := hz1.cells
      clear b1 hz1
      go_wp2
      (try simp only [Exit.inBlock, Exit.then])
      exact bodyPost_ret (v := atomV (.atom 0, 0)) (ret_atom rfl HS.out rfl rfl) rfl ⟨by rw [HR.out], HB1.out.setCell (Nat.le_refl _) _⟩
  · have f1 : ((k : Int) == 1) = false := by simp; omega
    have f5 : decide ((k : Int) > 5) = false := by simp; omega
    have hk2 : 2 ≤ k := by omega
    have hk5 : k ≤ 5 := by omega
    cases hh : hasL s.data.toList k 0 with
    | false =>
      rw [hh] at c2
      have HR := Lib.hid (show atomL s.data.toList = (.atom 0, 0) from by rw [HL.out, if_pos (Or.inr (Or.inr hh))])
      have C2 := Lib.hid c2
      clear HL hpp c2 h1 hh
      go_enter Tryz.func24, Tryz.ntmps24
      go_wp2_with fail
      refine (C1.out _).mono ?_
      rintro e w1 ⟨rfl, b1⟩
      have HB1 := Lib.hid (HB0.out.then b1)
      have hz1 := HZ0.out.below b1
      have HS := Lib.hid (hz1.set (.int .i64 0))
      obtain ⟨k0, k1⟩ := hz1.cells
      clear b1 hz1
      go_wp2_with fail
      refine (C2.out _).mono ?_
      rintro e w2 ⟨rfl, rfl⟩
      go_wp2
      (try simp only [Exit.inBlock, Exit.then])
      exact bodyPost_ret (v := atomV (.atom 0, 0)) (ret_atom rfl HS.out rfl rfl) rfl ⟨by rw [HR.out], HB1.out.setCell (Nat.le_refl _) _⟩
    | true =>
      rw [hh] at c2
      have hlt := hasL_lt hh
      rw [size_len'] at hlt
      have hdig : ∀ b ∈ (s.data.toList.take k).drop 1, tkDigit b = true := by rw [hpp]; exact takeWhile_all _ _
      have hlen : ((s.data.toList.take k).drop 1).length = k - 1 := by rw [List.length_drop, List.length_take, size_len']; omega
      obtain ⟨n, hn, hnb⟩ := atoi_digits _ hdig (by intro e; rw [e] at hlen; simp at hlen; omega)
      have HR := Lib.hid (show atomL s.data.toList = (.atom n, k + 1) from by rw [HL.out, if_neg (by rintro (e | e | e) <;> first | omega | (rw [hh] at e; cases e)), hn]; rfl)
      have hex : (s.extract 1 k).data.toList = (s.data.toList.take k).drop 1 := by rw [ext_bytes]; simp [List.drop_take]
      have c3 := fun W => Tryz.strconv_Atoi (s.extract 1 k) n (by rw [ByteArray.size_extract]; omega) (by rw [hex]; exact hn) W
      have C2 := Lib.hid c2
      have C3 := Lib.hid c3
      have hsl := fun W => slice_lohi s 1 (k : Int) 1 k rfl rfl (by omega) (by omega) W
      clear HL hpp c2 h1 hh c3 hex hn hdig hlen hnb
      go_enter Tryz.func24, Tryz.ntmps24
      go_wp2_with fail
      refine (C1.out _).mono ?_
      rintro e w1 ⟨rfl, b1⟩
      have HB1 := Lib.hid (HB0.out.then b1)
      have HZ1 := Lib.hid (HZ0.out.below b1)
      clear b1
      go_wp2_with fail
      refine (C2.out _).mono ?_
      rintro e w2 ⟨rfl, rfl⟩
      go_wp2_with fail
      refine (C3.out _).mono ?_
      rintro e w3 ⟨rfl, t3, rfl⟩
      have b3 := Lib.bytesWorld_below w1 5 t3
      generalize Lib.bytesWorld w1 5 t3 = w3 at *
      have HB3 := Lib.hid (HB1.out.then b3)
      have hz3 := HZ1.out.below b3
      have HS := Lib.hid (hz3.set (.int .i64 n))
      obtain ⟨k0, k1⟩ := hz3.cells
      clear b3 hz3
      go_wp2
      (try simp only [Exit.inBlock, Exit.then])
      exact bodyPost_ret (v := atomV (.atom n, k + 1)) (ret_atom rfl HS.out rfl rfl) rfl ⟨by rw [HR.out], HB3.out.setCell (Nat.le_refl _) _⟩

set_option maxHeartbeats 1000000 in
theorem escaped_tk (s : ByteArray) (h0 : 0 < s.size) (w : World) (hs : s.size ≤ 35184372088832) :
    Calls Tryz.prog 25 #[.string s] w fun e w' => e = .returned (tkR (escapedL s.data.toList)) ∧ Below w.heap.size w w' := by
  have c1 := fun W => has_any s 1 10 W hs (by omega)
  cases hh : hasL s.data.toList 1 10 with
  | true =>
    rw [hh] at c1
    have hlt := hasL_lt hh
    rw [size_len'] at hlt
    have HR := Lib.hid (show escapedL s.data.toList = (.brk true, pastL tkBlank s.data.toList 2) from by unfold escapedL; rw [if_pos hh])
    have c2 := fun W => past_any s 2 37 #[] _ W hs (by omega) (fun _ _ => by kernel_rfl) (kBlank W)
    generalize pastL tkBlank s.data.toList 2 = k at *
    have C1 := Lib.hid c1
    have C2 := Lib.hid c2
    clear c1 c2 hh
    go_enter Tryz.func25, Tryz.ntmps25
    go_wp2_with fail
    refine (C1.out _).mono ?_
    rintro e w1 ⟨rfl, rfl⟩
    go_wp2_with fail
    refine (C2.out _).mono ?_
    rintro e w2 ⟨rfl, b2⟩
    go_wp2
    go_ret2
    exact ⟨by rw [HR.out]; rfl, b2⟩
  | false =>
    rw [hh] at c1
    have C1 := Lib.hid c1
    clear c1
    by_cases hz : 1 < s.size
    · have hg : s.data.toList[1]? = some s[1] := by rw [List.getElem?_eq_getElem (by simpa using hz)]; rfl
      have ca := fun W => ascii_any (s[1].toNat : Int) W
      have hasc : asciiB (s[1].toNat : Int) = tkAscii s[1] := rfl
      rw [hasc] at ca
      have HX := Lib.hid (show s.extract 1 2 = ⟨#[s[1]]⟩ from by
        rw [ext_bytes, get_list s 1 hz]; rfl)
      cases hb : tkAscii s[1] with
      | true =>
        rw [hb] at ca
        have HR := Lib.hid (show escapedL s.data.toList = (.word [s[1]], 2) from by unfold escapedL; rw [if_neg (by simp [hh]), hg]; simp only; rw [if_pos hb])
        have CA := Lib.hid ca
        have hsl := fun W => slice_lohi s 1 2 1 2 rfl rfl (by omega) (by omega) W
        clear ca hb hasc hg hh
        go_enter Tryz.func25, Tryz.ntmps25
        go_wp2_with fail
        refine (C1.out _).mono ?_
        rintro e w1 ⟨rfl, rfl⟩
        go_wp2_with fail
        refine (CA.out _).mono ?_
        rintro e w2 ⟨rfl, rfl⟩
        go_wp2
        go_ret2
        exact ⟨by rw [HR.out]; simp only [tkR, tkV]; rw [← HX.out]; rfl, Below.refl _ _⟩
      | false =>
        rw [hb] at ca
        have HR := Lib.hid (show escapedL s.data.toList = (.no, 0) from by unfold escapedL; rw [if_neg (by simp [hh]), hg]; simp only; rw [if_neg (by simp [hb])])
        have CA := Lib.hid ca
        clear ca hb hasc hg hh
        go_enter Tryz.func25, Tryz.ntmps25
        go_wp2_with fail
        refine (C1.out _).mono ?_
        rintro e w1 ⟨rfl, rfl⟩
        go_wp2_with fail
        refine (CA.out _).mono ?_
        rintro e w2 ⟨rfl, rfl⟩
        go_wp2
        go_ret2
        exact ⟨by rw [HR.out]; rfl, Below.refl _ _⟩
    · have hg : s.data.toList[1]? = none := List.getElem?_eq_none (by rw [size_len']; omega)
      have HR := Lib.hid (show escapedL s.data.toList = (.no, 0) from by unfold escapedL; rw [if_neg (by simp [hh]), hg])
      clear hg hh
      go_enter Tryz.func25, Tryz.ntmps25
      go_wp2_with fail
      refine (C1.out _).mono ?_
      rintro e w1 ⟨rfl, rfl⟩
      go_wp2
      go_ret2
      exact ⟨by rw [HR.out]; rfl, Below.refl _ _⟩

end Go.Proofs.YtggdpmaomhmobaaGreatDoor
