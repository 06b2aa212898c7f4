/-
  Package token: between, address, mailbox, tag, pointed.
-/
import Derived.Test.YtggdpmaomhmobaaGreatDoorTkD
namespace Go.Proofs.YtggdpmaomhmobaaGreatDoor
open Go.RowKit
set_option linter.unusedSimpArgs false
set_option linter.unusedVariables false
set_option maxRecDepth 100000

theorem between_any (s : ByteArray) (k : Nat) (hk : k ≤ s.size) (h0 : 0 < s.size) (w : World) (hs : s.size ≤ 35184372088832) :
    Calls Tryz.prog 41 #[.string s, .int .i64 k] w fun e w' => e = .returned (.tuple #[.string ⟨(betweenL s.data.toList k).1.toArray⟩, .int .i64 (betweenL s.data.toList k).2]) ∧ w = w' := by
  by_cases hz : k = 0
  · subst hz
    have HR := Lib.hid (show betweenL s.data.toList 0 = ([], 0) from by unfold betweenL; rw [if_pos (Or.inl rfl)])
    go_enter Tryz.func41, Tryz.ntmps41
    go_wp2
    go_ret2
    exact ⟨by rw [HR.out]; rfl, rfl⟩
  · have f0 : ((k : Int) == 0) = false := by simp; omega
    have c1 := fun W => has_any s k 62 W hs (by omega)
    cases hh : hasL s.data.toList k 62 with
    | false =>
      rw [hh] at c1
      have HR := Lib.hid (show betweenL s.data.toList k = ([], 0) from by unfold betweenL; rw [if_pos (Or.inr hh)])
      have C1 := Lib.hid c1
      clear c1 hh
      go_enter Tryz.func41, Tryz.ntmps41
      go_wp2_with fail
      refine (C1.out _).mono ?_
      rintro e w1 ⟨rfl, rfl⟩
      go_wp2
      go_ret2
      exact ⟨by rw [HR.out]; rfl, rfl⟩
    | true =>
      rw [hh] at c1
      have hlt := hasL_lt hh
      rw [size_len'] at hlt
      have HR := Lib.hid (show betweenL s.data.toList k = ((s.data.toList.take k).drop 1, k + 1) from by unfold betweenL; rw [if_neg (by simp [hz, hh])])
      have HX := Lib.hid (show s.extract 1 k = ⟨((s.data.toList.take k).drop 1).toArray⟩ from by rw [ext_bytes, List.drop_take])
      have hsl := fun W => slice_lohi s 1 (k : Int) 1 k rfl rfl (by omega) (by omega) W
      have C1 := Lib.hid c1
      clear c1 hh
      go_enter Tryz.func41, Tryz.ntmps41
      go_wp2_with fail
      refine (C1.out _).mono ?_
      rintro e w1 ⟨rfl, rfl⟩
      go_wp2
      go_ret2
      exact ⟨by rw [HR.out]; simp only; rw [← HX.out]; rfl, rfl⟩

theorem getE (s : ByteArray) (k : Nat) (h : k < s.size) : (((s.data.toList[k]?).map tkLetter).getD false) = tkLetterI (s[k].toNat : Int) := by
  rw [List.getElem?_eq_getElem (by simpa using h)]; rfl

set_option maxHeartbeats 1000000 in
theorem address_any (s : ByteArray) (h0 : 0 < s.size) (w : World) (hs : s.size ≤ 35184372088832) :
    Calls Tryz.prog 42 #[.string s] w fun e w' => e = .returned (.int .i64 (addressL s.data.toList)) ∧ addressL s.data.toList ≤ s.size ∧ Below w.heap.size w w' := by
  have hle := pastL_le tkScheme s.data.toList 1 (by rw [size_len']; exact h0)
  rw [size_len'] at hle
  have hge := pastL_ge tkScheme s.data.toList 1
  have c1 := fun W => past_any s 1 55 #[] _ W hs h0 (fun _ _ => by kernel_rfl) (kScheme W)
  have HL := Lib.hid (show addressL s.data.toList = if pastL tkScheme s.data.toList 1 < 3 ∨ 33 < pastL tkScheme s.data.toList 1 ∨ ((s.data.toList[1]?).map tkLetter).getD false = false ∨ hasL s.data.toList (pastL tkScheme s.data.toList 1) 58 = false then 0 else pastL tkUrl s.data.toList (pastL tkScheme s.data.toList 1 + 1) from rfl)
  generalize pastL tkScheme s.data.toList 1 = k at *
  have C1 := Lib.hid c1
  clear c1
  by_cases h3 : k < 3
  · have HR := Lib.hid (show addressL s.data.toList = 0 from by rw [HL.out, if_pos (Or.inl h3)])
    clear HL
    go_enter Tryz.func42, Tryz.ntmps42
    go_wp2_with fail
    refine (C1.out _).mono ?_
    rintro e w1 ⟨rfl, b1⟩
    go_wp2
    go_ret
    exact ⟨by rw [HR.out]; rfl, by rw [HR.out]; omega, b1⟩
  · by_cases h33 : 33 < k
    · have HR := Lib.hid (show addressL s.data.toList = 0 from by rw [HL.out, if_pos (Or.inr (Or.inl h33))])
      clear HL
      go_enter Tryz.func42, Tryz.ntmps42
      go_wp2_with fail
      refine (C1.out _).mono ?_
      rintro e w1 ⟨rfl, b1⟩
      go_wp2
      go_ret
      exact ⟨by rw [HR.out]; rfl, by rw [HR.out]; omega, b1⟩
    · have h1 : 1 < s.size := by omega
      have c2 := fun W => tkLetter_any (s[1].toNat : Int) W
      have hg := getE s 1 h1
      cases hl : tkLetterI (s[1].toNat : Int) with
      | false =>
        rw [hl] at c2 hg
        have HR := Lib.hid (show addressL s.data.toList = 0 from by rw [HL.out, if_pos (Or.inr (Or.inr (Or.inl hg)))])
        have C2 := Lib.hid c2
        clear HL c2 hg hl
        go_enter Tryz.func42, Tryz.ntmps42
        go_wp2_with fail
        refine (C1.out _).mono ?_
        rintro e w1 ⟨rfl, b1⟩
        go_wp2_with fail
        refine (C2.out _).mono ?_
        rintro e w2 ⟨rfl, rfl⟩
        go_wp2
        go_ret
        exact ⟨by rw [HR.out]; rfl, by rw [HR.out]; omega, b1⟩
      | true =>
        rw [hl] at c2 hg
        have c3 := fun W => has_any s k 58 W hs (by omega)
        cases hh : hasL s.data.toList k 58 with
        | false =>
          rw [hh] at c3
          have HR := Lib.hid (show addressL s.data.toList = 0 from by rw [HL.out, if_pos (Or.inr (Or.inr (Or.inr hh)))])
          have C2 := Lib.hid c2
          have C3 := Lib.hid c3
          clear HL c2 hg hl c3 hh
          go_enter Tryz.func42, Tryz.ntmps42
          go_wp2_with fail
          refine (C1.out _).mono ?_
          rintro e w1 ⟨rfl, b1⟩
          go_wp2_with fail
          refine (C2.out _).mono ?_
          rintro e w2 ⟨rfl, rfl⟩
          go_wp2_with fail
          refine (C3.out _).mono ?_
          rintro e w3 ⟨rfl, rfl⟩
          go_wp2
          go_ret
          exact ⟨by rw [HR.out]; rfl, by rw [HR.out]; omega, b1⟩
        | true =>
          rw [hh] at c3
          have hlt := hasL_lt hh
          rw [size_len'] at hlt
          have HR := Lib.hid (show addressL s.data.toList = pastL tkUrl s.data.toList (k + 1) from by rw [HL.out, if_neg (by rw [hg, hh]; simp; omega)])
          have hle2 := pastL_le tkUrl s.data.toList (k + 1) (by rw [size_len']; omega)
          rw [size_len'] at hle2
          have c4 := fun W => past_any s (k + 1) 57 #[] _ W hs hlt (fun _ _ => by kernel_rfl) (kUrl W)
          generalize pastL tkUrl s.data.toList (k + 1) = z at *
          have C2 := Lib.hid c2
          have C3 := Lib.hid c3
          have C4 := Lib.hid c4
          clear HL c2 hg hl c3 hh c4
          go_enter Tryz.func42, Tryz.ntmps42
          go_wp2_with fail
          refine (C1.out _).mono ?_
          rintro e w1 ⟨rfl, b1⟩
          go_wp2_with fail
          refine (C2.out _).mono ?_
          rintro e w2 ⟨rfl, rfl⟩
          go_wp2_with fail
          refine (C3.out _).mono ?_
          rintro e w3 ⟨rfl, rfl⟩
          go_wp2_with fail
          refine (C4.out _).mono ?_
          rintro e w4 ⟨rfl, b4⟩
          go_wp2
          go_ret
          exact ⟨by rw [HR.out]; rfl, by rw [HR.out]; exact hle2, b1.then b4⟩

set_option maxHeartbeats 1000000 in
theorem mailbox_any (s : ByteArray) (h0 : 0 < s.size) (w : World) (hs : s.size ≤ 35184372088832) :
    Calls Tryz.prog 43 #[.string s] w fun e w' => e = .returned (.int .i64 (mailboxL s.data.toList)) ∧ mailboxL s.data.toList ≤ s.size ∧ Below w.heap.size w w' := by
  have hle := pastL_le tkMail s.data.toList 1 (by rw [size_len']; exact h0)
  rw [size_len'] at hle
  have hge := pastL_ge tkMail s.data.toList 1
  have c1 := fun W => past_any s 1 58 #[] _ W hs h0 (fun _ _ => by kernel_rfl) (kMail W)
  have HL := Lib.hid (show mailboxL s.data.toList = if pastL tkMail s.data.toList 1 = 1 ∨ hasL s.data.toList (pastL tkMail s.data.toList 1) 64 = false then 0 else if pastL tkHost s.data.toList (pastL tkMail s.data.toList 1 + 1) = pastL tkMail s.data.toList 1 + 1 then 0 else pastL tkHost s.data.toList (pastL tkMail s.data.toList 1 + 1) from rfl)
  generalize pastL tkMail s.data.toList 1 = k at *
  have C1 := Lib.hid c1
  clear c1
  by_cases h1 : k = 1
  · have HR := Lib.hid (show mailboxL s.data.toList = 0 from by rw [HL.out, if_pos (Or.inl h1)])
    clear HL
    subst h1
    go_enter Tryz.func43, Tryz.ntmps43
    go_wp2_with fail
    refine (C1.out _).mono ?_
    rintro e w1 ⟨rfl, b1⟩
    go_wp2
    go_ret
    exact ⟨by rw [HR.out]; rfl, by rw [HR.out]; omega, b1⟩
  · have f1 : ((k : Int) == 1) = false := by simp; omega
    have c3 := fun W => has_any s k 64 W hs (by omega)
    cases hh : hasL s.data.toList k 64 with
    | false =>
      rw [hh] at c3
      have HR := Lib.hid (show mailboxL s.data.toList = 0 from by rw [HL.out, if_pos (Or.inr hh)])
      have C3 := Lib.hid c3
      clear HL c3 hh h1
      go_enter Tryz.func43, Tryz.ntmps43
      go_wp2_with fail
      refine (C1.out _).mono ?_
      rintro e w1 ⟨rfl, b1⟩
      go_wp2_with fail
      refine (C3.out _).mono ?_
      rintro e w3 ⟨rfl, rfl⟩
      go_wp2
      go_ret
      exact ⟨by rw [HR.out]; rfl, by rw [HR.out]; omega, b1⟩
    | true =>
      rw [hh] at c3
      have hlt := hasL_lt hh
      rw [size_len'] at hlt
      have hle2 := pastL_le tkHost s.data.toList (k + 1) (by rw [size_len']; omega)
      have hge2 := pastL_ge tkHost s.data.toList (k + 1)
      rw [size_len'] at hle2
      have hr := HL.out
      rw [if_neg (by rw [hh]; simp [h1])] at hr
      have c4 := fun W => past_any s (k + 1) 59 #[] _ W hs hlt (fun _ _ => by kernel_rfl) (kHost W)
      generalize pastL tkHost s.data.toList (k + 1) = z at *
      have C3 := Lib.hid c3
      have C4 := Lib.hid c4
      clear HL c3 hh c4 h1
      by_cases hz : z = k + 1
      · rw [if_pos hz] at hr
        have HR := Lib.hid hr
        have f2 : ((z : Int) == (k : Int) + 1) = true := by simp; omega
        clear hr hz
        go_enter Tryz.func43, Tryz.ntmps43
        go_wp2_with fail
        refine (C1.out _).mono ?_
        rintro e w1 ⟨rfl, b1⟩
        go_wp2_with fail
        refine (C3.out _).mono ?_
        rintro e w3 ⟨rfl, rfl⟩
        go_wp2_with fail
        refine (C4.out _).mono ?_
        rintro e w4 ⟨rfl, b4⟩
        go_wp2
        go_ret
        exact ⟨by rw [HR.out]; rfl, by rw [HR.out]; omega, b1.then b4⟩
      · rw [if_neg hz] at hr
        have HR := Lib.hid hr
        have f2 : ((z : Int) == (k : Int) + 1) = false := by simp; omega
        clear hr hz
        go_enter Tryz.func43, Tryz.ntmps43
        go_wp2_with fail
        refine (C1.out _).mono ?_
        rintro e w1 ⟨rfl, b1⟩
        go_wp2_with fail
        refine (C3.out _).mono ?_
        rintro e w3 ⟨rfl, rfl⟩
        go_wp2_with fail
        refine (C4.out _).mono ?_
        rintro e w4 ⟨rfl, b4⟩
        go_wp2
        go_ret
        exact ⟨by rw [HR.out]; rfl, by rw [HR.out]; exact hle2, b1.then b4⟩

/-- What stands from the sign's name on. -/
def tagGo (l : List UInt8) (f : Nat) : Nat :=
  if f = l.length ∨ ((l[f]?).map tkLetter).getD false = false then 0
  else if hasL l (pastL tkTagName l f) 32 || hasL l (pastL tkTagName l f) 10 || hasL l (pastL tkTagName l f) 47 then pastL tkInTag l (pastL tkTagName l f) else pastL tkTagName l f
theorem tagL_go (l : List UInt8) : tagL l = tagGo l (if hasL l 1 47 then 2 else 1) := rfl

set_option maxHeartbeats 4000000 in
theorem tag_any (s : ByteArray) (h0 : 0 < s.size) (w : World) (hs : s.size ≤ 35184372088832) :
    Calls Tryz.prog 44 #[.string s] w fun e w' => e = .returned (.int .i64 (tagL s.data.toList)) ∧ tagL s.data.toList ≤ s.size ∧ Below w.heap.size w w' := by
  have c1 := fun W => has_any s 1 47 W hs (by omega)
  have ht := tagL_go s.data.toList
  have hf : ∃ b f, hasL s.data.toList 1 47 = b ∧ (if b then 2 else 1) = f ∧ 1 ≤ f ∧ f ≤ s.size ∧ (b = true ∧ f = 2 ∨ b = false ∧ f = 1) := by
    cases hh : hasL s.data.toList 1 47 with
    | true =>
      have hlt := hasL_lt hh
      rw [size_len'] at hlt
      exact ⟨true, 2, rfl, rfl, by omega, by omega, Or.inl ⟨rfl, rfl⟩⟩
    | false => exact ⟨false, 1, rfl, rfl, by omega, by omega, Or.inr ⟨rfl, rfl⟩⟩
  obtain ⟨b, f, e1, e2, hf1, hf2, hbf⟩ := hf
  rw [e1] at c1 ht
  rw [e2] at ht
  have C1 := Lib.hid c1
  clear e1 e2 c1
  by_cases hfs : f = s.size
  · have HR := Lib.hid (show tagL s.data.toList = 0 from by rw [ht]; unfold tagGo; rw [if_pos (Or.inl (by rw [size_len']; exact hfs))])
    have f1 : ((f : Int) == (s.size : Int)) = true := by simp; omega
    clear ht hfs
    rcases hbf with ⟨rfl, rfl⟩ | ⟨rfl, rfl⟩ <;>
    · (first | rw [show ((2 : Nat) : Int) = 2 from rfl] at f1 | rw [show ((1 : Nat) : Int) = 1 from rfl] at f1)
      go_enter Tryz.func44, Tryz.ntmps44
      go_wp2_with fail
      refine (C1.out _).mono ?_
      rintro e w1 ⟨rfl, rfl⟩
      go_wp2
      go_ret
      exact ⟨by rw [HR.out]; rfl, by rw [HR.out]; omega, Below.refl _ _⟩
  · have hlt : f < s.size := by omega
    have f1 : ((f : Int) == (s.size : Int)) = false := by simp; omega
    have c2 := fun W => tkLetter_any (s[f].toNat : Int) W
    have hg := getE s f hlt
    cases hl : tkLetterI (s[f].toNat : Int) with
    | false =>
      rw [hl] at c2 hg
      have HR := Lib.hid (show tagL s.data.toList = 0 from by rw [ht]; unfold tagGo; rw [if_pos (Or.inr hg)])
      have C2 := Lib.hid c2
      clear ht c2 hg hl hfs
      rcases hbf with ⟨rfl, rfl⟩ | ⟨rfl, rfl⟩ <;>
      · go_enter Tryz.func44, Tryz.ntmps44
        go_wp2_with fail
        refine (C1.out _).mono ?_
        rintro e w1 ⟨rfl, rfl⟩
        go_wp2_with fail
        refine (C2.out _).mono ?_
        rintro e w2 ⟨rfl, rfl⟩
        go_wp2
        go_ret
        exact ⟨by rw [HR.out]; rfl, by rw [HR.out]; omega, Below.refl _ _⟩
    | true =>
      rw [hl] at c2 hg
      have hr : tagL s.data.toList = if hasL s.data.toList (pastL tkTagName s.data.toList f) 32 || hasL s.data.toList (pastL tkTagName s.data.toList f) 10 || hasL s.data.toList (pastL tkTagName s.data.toList f) 47 then pastL tkInTag s.data.toList (pastL tkTagName s.data.toList f) else pastL tkTagName s.data.toList f := by
        rw [ht]; unfold tagGo; rw [if_neg (by rw [size_len', hg]; simp; omega)]
      have hle := pastL_le tkTagName s.data.toList f (by rw [size_len']; exact hf2)
      rw [size_len'] at hle
      have c3 := fun W => past_any s f 60 #[] _ W hs hf2 (fun _ _ => by kernel_rfl) (kTagName W)
      generalize pastL tkTagName s.data.toList f = k at *
      have d1 := fun W => has_any s k 32 W hs (by omega)
      have d2 := fun W => has_any s k 10 W hs (by omega)
      have d3 := fun W => has_any s k 47 W hs (by omega)
      have hle2 := pastL_le tkInTag s.data.toList k (by rw [size_len']; exact hle)
      rw [size_len'] at hle2
      have c4 := fun W => past_any s k 61 #[] _ W hs hle (fun _ _ => by kernel_rfl) (kInTag W)
      generalize pastL tkInTag s.data.toList k = z at *
      have C2 := Lib.hid c2
      have C3 := Lib.hid c3
      have C4 := Lib.hid c4
      have D1 := Lib.hid d1
      have D2 := Lib.hid d2
      have D3 := Lib.hid d3
      have hcase : (hasL s.data.toList k 32 = true) ∨ (hasL s.data.toList k 32 = false ∧ hasL s.data.toList k 10 = true) ∨ (hasL s.data.toList k 32 = false ∧ hasL s.data.toList k 10 = false ∧ hasL s.data.toList k 47 = true) ∨ (hasL s.data.toList k 32 = false ∧ hasL s.data.toList k 10 = false ∧ hasL s.data.toList k 47 = false) := by
        cases hasL s.data.toList k 32 <;> cases hasL s.data.toList k 10 <;> cases hasL s.data.toList k 47 <;> simp
      clear ht c2 hg hl hfs c3 c4 d1 d2 d3
      rcases hcase with h1 | ⟨h1, h2⟩ | ⟨h1, h2, h3⟩ | ⟨h1, h2, h3⟩
      · have HR := Lib.hid (show tagL s.data.toList = z from by rw [hr, h1]; rfl)
        rw [h1] at D1
        clear hr h1
        rcases hbf with ⟨rfl, rfl⟩ | ⟨rfl, rfl⟩ <;>
        · go_enter Tryz.func44, Tryz.ntmps44
          go_wp2_with fail
          refine (C1.out _).mono ?_
          rintro e w1 ⟨rfl, rfl⟩
          go_wp2_with fail
          refine (C2.out _).mono ?_
          rintro e w2 ⟨rfl, rfl⟩
          go_wp2_with fail
          refine (C3.out _).mono ?_
          rintro e w3 ⟨rfl, b3⟩
          go_wp2_with fail
          refine (D1.out _).mono ?_
          rintro e w4 ⟨rfl, rfl⟩
          go_wp2_with fail
          refine (C4.out _).mono ?_
          rintro e w5 ⟨rfl, b5⟩
          go_wp2
          go_ret
          exact ⟨by rw [HR.out]; rfl, by rw [HR.out]; exact hle2, b3.then b5⟩
      · have HR := Lib.hid (show tagL s.data.toList = z from by rw [hr, h1, h2]; rfl)
        rw [h1] at D1
        rw [h2] at D2
        clear hr h1 h2
        rcases hbf with ⟨rfl, rfl⟩ | ⟨rfl, rfl⟩ <;>
        · go_enter Tryz.func44, Tryz.ntmps44
          go_wp2_with fail
          refine (C1.out _).mono ?_
          rintro e w1 ⟨rfl, rfl⟩
          go_wp2_with fail
          refine (C2.out _).mono ?_
          rintro e w2 ⟨rfl, rfl⟩
          go_wp2_with fail
          refine (C3.out _).mono ?_
          rintro e w3 ⟨rfl, b3⟩
          go_wp2_with fail
          refine (D1.out _).mono ?_
          rintro e w4 ⟨rfl, rfl⟩
          go_wp2_with fail
          refine (D2.out _).mono ?_
          rintro e w4 ⟨rfl, rfl⟩
          go_wp2_with fail
          refine (C4.out _).mono ?_
          rintro e w5 ⟨rfl, b5⟩
          go_wp2
          go_ret
          exact ⟨by rw [HR.out]; rfl, by rw [HR.out]; exact hle2, b3.then b5⟩
      · have HR := Lib.hid (show tagL s.data.toList = z from by rw [hr, h1, h2, h3]; rfl)
        rw [h1] at D1
        rw [h2] at D2
        rw [h3] at D3
        clear hr h1 h2 h3
        rcases hbf with ⟨rfl, rfl⟩ | ⟨rfl, rfl⟩ <;>
        · go_enter Tryz.func44, Tryz.ntmps44
          go_wp2_with fail
          refine (C1.out _).mono ?_
          rintro e w1 ⟨rfl, rfl⟩
          go_wp2_with fail
          refine (C2.out _).mono ?_
          rintro e w2 ⟨rfl, rfl⟩
          go_wp2_with fail
          refine (C3.out _).mono ?_
          rintro e w3 ⟨rfl, b3⟩
          go_wp2_with fail
          refine (D1.out _).mono ?_
          rintro e w4 ⟨rfl, rfl⟩
          go_wp2_with fail
          refine (D2.out _).mono ?_
          rintro e w4 ⟨rfl, rfl⟩
          go_wp2_with fail
          refine (D3.out _).mono ?_
          rintro e w4 ⟨rfl, rfl⟩
          go_wp2_with fail
          refine (C4.out _).mono ?_
          rintro e w5 ⟨rfl, b5⟩
          go_wp2
          go_ret
          exact ⟨by rw [HR.out]; rfl, by rw [HR.out]; exact hle2, b3.then b5⟩
      · have HR := Lib.hid (show tagL s.data.toList = k from by rw [hr, h1, h2, h3]; rfl)
        rw [h1] at D1
        rw [h2] at D2
        rw [h3] at D3
        clear hr h1 h2 h3
        rcases hbf with ⟨rfl, rfl⟩ | ⟨rfl, rfl⟩ <;>
        · go_enter Tryz.func44, Tryz.ntmps44
          go_wp2_with fail
          refine (C1.out _).mono ?_
          rintro e w1 ⟨rfl, rfl⟩
          go_wp2_with fail
          refine (C2.out _).mono ?_
          rintro e w2 ⟨rfl, rfl⟩
          go_wp2_with fail
          refine (C3.out _).mono ?_
          rintro e w3 ⟨rfl, b3⟩
          go_wp2_with fail
          refine (D1.out _).mono ?_
          rintro e w4 ⟨rfl, rfl⟩
          go_wp2_with fail
          refine (D2.out _).mono ?_
          rintro e w4 ⟨rfl, rfl⟩
          go_wp2_with fail
          refine (D3.out _).mono ?_
          rintro e w4 ⟨rfl, rfl⟩
          go_wp2
          go_ret
          exact ⟨by rw [HR.out]; rfl, by rw [HR.out]; exact hle, b3⟩

end Go.Proofs.YtggdpmaomhmobaaGreatDoor
