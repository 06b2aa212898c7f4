/-
  FrameDepths: parts lie in one another as their signs stand; runs never stand side by side; the law's walk. And what plain answers.
-/
import Derived.Test.YtodnioihadpncaaDoorFrmI
import Derived.Test.YtodnioihadpncaaDoorFrmQ
namespace Go.Proofs.YtodnioihadpncaaDoor
open Go.RowKit
set_option linter.unusedSimpArgs false
set_option linter.unusedVariables false
set_option maxRecDepth 100000

/-! ### Which lines may be -/
def plainLn (y : Txt) : Bool := decide (y.length ≤ 100) && lfFree y
def plainL (ls : List Txt) : Bool := ls.all plainLn && decide (ls.length ≤ 60)
def PlRel (ls : List Txt) (w : World) (i : Value) (wr : World) : Prop := ∃ k : Nat, i = .int .i64 k ∧ k ≤ ls.length ∧ (ls.take k).all plainLn = true ∧ wr = w
def LfRel (X : ByteArray) (w : World) (i : Value) (wr : World) : Prop := ∃ k : Nat, i = .int .i64 k ∧ k ≤ X.size ∧ (∀ m (h : m < X.size), m < k → X[m].toNat ≠ 10) ∧ wr = w
theorem plain_no {ls : List Txt} {k : Nat} (hk : k < ls.length) (h : plainLn ls[k] = false) : plainL ls = false := by
  unfold plainL
  rw [Bool.and_eq_false_iff]
  left
  rw [List.all_eq_false]
  exact ⟨ls[k], List.getElem_mem hk, by simp [h]⟩

set_option maxHeartbeats 4000000 in
theorem plain_any (A : Option Addr) (c : Nat) (ls : List Txt) (w : World) (hrow : RowOf w A c (strs ls)) (hz : ∀ y ∈ ls, y.length ≤ 9223372036854775807) :
    Calls Tryd.prog 11 #[.slice A ls.length c] w fun e w' => e = .returned (.bool (plainL ls)) ∧ w' = w := by
  have hcl := hrow.1
  have hcm := hrow.2.1
  rw [strs_length] at hcl
  unfold maxLen at hcm
  have HZ := Lib.hid hz
  clear hz
  go_enter Tryd.func11, Tryd.ntmps11
  go_wp2_with fail
  go_loopw [8] (fun i wr => PlRel ls w i wr) (fun i _ => ls.length - (intOf i).toNat)
  case atStart => exact ⟨0, rfl, Nat.zero_le _, by simp, rfl⟩
  case round =>
    obtain ⟨k, rfl, hk, hall, hwe⟩ := hrel
    have hwe := hwe.symm
    subst hwe
    have HA := Lib.hid hall
    clear hall
    by_cases hp : k < ls.length
    · obtain ⟨b, off, rfl, hb, hcell⟩ := hrow.cellAt hp
      have hXz := HZ.out ls[k] (List.getElem_mem hp)
      have hpl : plainLn ls[k] = (decide ((⟨ls[k].toArray⟩ : ByteArray).size ≤ 100) && lfFree ls[k]) := by rw [str_size]; rfl
      have HT := Lib.hid (List.take_succ_eq_append_getElem hp)
      have HNo := Lib.hid (plain_no hp)
      rw [← str_size] at hXz
      have HXd := Lib.hid (show (⟨ls[k].toArray⟩ : ByteArray).data.toList = ls[k] from rfl)
      generalize (⟨ls[k].toArray⟩ : ByteArray) = X at *
      have HPl := Lib.hid hpl
      clear hpl
      by_cases hx : 100 < X.size
      · have HF := Lib.hid (HNo.out (by rw [HPl.out]; simp; omega))
        go_wp2
        go_ret
        exact ⟨ret_bool HF.out.symm, rfl⟩
      · have hx2 : X.size ≤ 100 := by omega
        clear hx
        go_wp2_with fail
        go_loopw [5] (fun i wr' => LfRel X w i wr') (fun i _ => X.size - (intOf i).toNat)
        case atStart => exact ⟨0, rfl, Nat.zero_le _, fun m _ hm => absurd hm (Nat.not_lt_zero _), rfl⟩
        case round =>
          obtain ⟨m, rfl, hm, hby, hwe⟩ := hrel
          have hwe := hwe.symm
          subst hwe
          have HBy := Lib.hid hby
          clear hby
          by_cases hp3 : m < X.size
          · by_cases h10 : X[m].toNat = 10
            · have f10 : ((X[m].toNat : Int) == 10) = true := by simp; omega
              have HF := Lib.hid (HNo.out (by
                rw [HPl.out, Bool.and_eq_false_iff]
                right
                rw [← HXd.out]
                unfold lfFree
                rw [List.all_eq_false]
                refine ⟨X[m], ?_, ?_⟩
                · have : X[m] = X.data.toList[m]'(by simpa using hp3) := rfl
                  rw [this]; exact List.getElem_mem _
                · have : X[m] = 10 := by apply UInt8.toNat_inj.1; simpa using h10
                  rw [this]; decide))
              clear h10
              go_wp2
              go_ret
              exact ⟨ret_bool HF.out.symm, rfl⟩
            · have f10 : ((X[m].toNat : Int) == 10) = false := by simp; omega
              have H10 := Lib.hid h10
              clear h10
              go_wp2
              refine ⟨⟨m + 1, by go_num, by omega, fun q hq hq2 => ?_, rfl⟩, by simp [intOf]; omega⟩
              by_cases e : q = m
              · subst e; exact H10.out
              · exact HBy.out q hq (by omega)
          · obtain rfl : m = X.size := by omega
            have hlf : lfFree ls[k] = true := by
              rw [← HXd.out]
              unfold lfFree
              rw [List.all_eq_true]
              intro b hb
              obtain ⟨q, hq, rfl⟩ := List.mem_iff_getElem.1 hb
              have hq2 : q < X.size := by simpa using hq
              have := HBy.out q hq2 hq2
              have e2 : X.data.toList[q] = X[q] := rfl
              rw [e2, bne_iff_ne]
              intro e
              rw [e] at this
              exact this rfl
            have HF := Lib.hid (show (ls.take (k + 1)).all plainLn = true from by
              rw [HT.out, List.all_append, HA.out]
              simp [HPl.out, hlf, hx2])
            clear hlf
            go_wp2
            exact ⟨⟨k + 1, by go_num, by omega, HF.out, rfl⟩, by simp [intOf]; omega⟩
    · obtain rfl : k = ls.length := by omega
      have HF := Lib.hid (show plainL ls = decide (ls.length ≤ 60) from by
        have := HA.out
        rw [List.take_length] at this
        unfold plainL
        rw [this, Bool.true_and])
      go_wp2
      go_ret
      exact ⟨ret_bool (by rw [HF.out, Bool.eq_iff_iff]; simp; omega), rfl⟩

/-! ### Depths -/
theorem rightF_at : ∀ (ps : List Prt) (last : Option Prt) (o : Nat), rightF last o ps = true → ∀ (i : Nat) (p : Prt), ps[i]? = some p → rightPart p = true ∧ rightDepth p (if i = 0 then last else ps[i - 1]?) = true
  | [], _, _, _, i, p, h => by simp at h
  | q :: ps, last, o, hr, i, p, h => by
    rw [rightF] at hr
    simp only [Bool.and_eq_true] at hr
    cases i with
    | zero =>
      simp at h
      subst h
      exact ⟨hr.1.1.1, by simpa using hr.1.1.2⟩
    | succ i =>
      have := rightF_at ps (some q) _ hr.2 i p (by simpa using h)
      refine ⟨this.1, ?_⟩
      have h2 := this.2
      cases i with
      | zero => simpa using h2
      | succ i => simpa using h2
theorem depth_le {ps : List Prt} (h : rightP ps = true) : ∀ (i : Nat) (p : Prt), ps[i]? = some p → 0 ≤ p.depth ∧ p.depth ≤ i
  | 0, p, hp => by
    have := (rightF_at ps none 0 h 0 p hp).2
    simp [rightDepth] at this
    omega
  | i + 1, p, hp => by
    have h1 := (rightF_at ps none 0 h (i + 1) p hp).2
    have hl : i < ps.length := by have := (List.getElem?_eq_some_iff.1 hp).1; omega
    have ih := depth_le h i ps[i] (List.getElem?_eq_getElem hl)
    rw [if_neg (by omega), Nat.add_sub_cancel, List.getElem?_eq_getElem hl] at h1
    simp only [rightDepth, Bool.and_eq_true, decide_eq_true_eq] at h1
    refine ⟨h1.1, ?_⟩
    have h2 : p.depth ≤ if ps[i].dv then ps[i].depth + 1 else if p.dv then ps[i].depth else ps[i].depth - 1 := h1.2
    split at h2
    · omega
    · split at h2 <;> omega
def numP (p : Prt) : Nat := p.ls.length + if p.dv then (if p.opn then 1 else 2) else 0
def numOf (ps : List Prt) : Nat := (ps.map numP).sum
theorem numOf_append (a b : List Prt) : numOf (a ++ b) = numOf a + numOf b := by simp [numOf]
theorem num_step {st : List Prt × List Nat} {w : List Txt} {s : Txt} (h : POk st w) : numOf (stepP st s).1 = numOf st.1 + 1 := by
  obtain ⟨ps, op⟩ := st
  obtain ⟨hr, hi, hw⟩ := h
  simp only at hr hi hw
  have hl : op.length = cnt ps := by rw [hi, idxF_length]
  unfold stepP
  cases ho : opensL s with
  | some lab =>
    dsimp only
    rw [numOf_append]
    rfl
  | none =>
    dsimp only
    by_cases hc : op ≠ [] ∧ closesL s = true
    · rw [if_pos hc]
      have h0 : cnt ps ≠ 0 := by rw [← hl]; intro e; exact hc.1 (List.eq_nil_of_length_eq_zero e)
      obtain ⟨a, D, b, e, hD, hb⟩ := last_open ps h0
      have ei : idxF 0 (a ++ D :: b) = idxF 0 a ++ [a.length] := by
        rw [idxF_append, idxF, if_pos hD, idxF_none _ _ hb, Nat.zero_add]
      subst e
      rw [ei] at hi
      rw [hi, List.getLast?_concat]
      simp only [Option.getD_some]
      rw [shut_at, numOf_append, numOf_append]
      have hdv : D.dv = true := by
        have := (rightF_at _ none 0 hr a.length D (by simp)).1
        unfold rightPart at this
        cases h : D.dv with
        | true => rfl
        | false => rw [h, hD] at this; simp at this
      simp [numOf, numP, hD, hdv]
      omega
    · rw [if_neg hc]
      cases hg : ps.getLast? with
      | none => rw [addLn_none _ _ hg, numOf_append]; rfl
      | some p =>
        by_cases hp : p.dv = true ∨ p.depth ≠ op.length
        · rw [addLn_new _ _ hg hp, numOf_append]; rfl
        · obtain ⟨ys, rfl⟩ := List.getLast?_eq_some_iff.1 hg
          have hp1 : p.dv = false := by cases h : p.dv <;> simp [h] at hp ⊢
          have hp2 : p.depth = op.length := by
            by_cases e : p.depth = op.length
            · exact e
            · exact absurd (Or.inr e) hp
          rw [addLn_same _ _ hp1 hp2, numOf_append, numOf_append]
          simp [numOf, numP, hp1]
          omega
theorem num_parse : ∀ (l : List Txt) (st : List Prt × List Nat) (w : List Txt), POk st w → (∀ s ∈ l, lfFree s = true) → numOf (parseF st l).1 = numOf st.1 + l.length
  | [], st, w, h, _ => rfl
  | s :: l, st, w, h, hs => by
    have h1 := num_parse l (stepP st s) _ (step_ok h (hs s (by simp))) (fun x hx => hs x (by simp [hx]))
    rw [show parseF st (s :: l) = parseF (stepP st s) l from rfl, h1, num_step h, List.length_cons]
    omega
theorem num_all (l : List Txt) (hs : ∀ s ∈ l, lfFree s = true) : numOf (parseL l) = l.length := by
  have := num_parse l ([], []) [] ⟨rfl, rfl, rfl⟩ hs
  rw [show numOf (([], []) : List Prt × List Nat).1 = 0 from rfl, Nat.zero_add] at this
  exact this
theorem num_take (ps : List Prt) (k : Nat) (hk : k < ps.length) : numOf (ps.take (k + 1)) = numOf (ps.take k) + numP ps[k] := by
  rw [List.take_succ_eq_append_getElem hk, numOf_append]; simp [numOf]
theorem num_le (ps : List Prt) (k : Nat) : numOf (ps.take k) ≤ numOf ps := by
  have := congrArg numOf (List.take_append_drop k ps)
  rw [numOf_append] at this
  omega
theorem plain_lf {ls : List Txt} (h : plainL ls = true) : (∀ s ∈ ls, lfFree s = true) ∧ ls.length ≤ 60 ∧ ∀ s ∈ ls, s.length ≤ 100 := by
  unfold plainL plainLn at h
  rw [Bool.and_eq_true, List.all_eq_true] at h
  refine ⟨fun s hs => ?_, by simpa using h.2, fun s hs => ?_⟩
  · have := h.1 s hs; simp at this; exact this.2
  · have := h.1 s hs; simp at this; exact this.1

end Go.Proofs.YtodnioihadpncaaDoor
