/-
  FrameBack: the parts of lines are right, and their lines are these lines, but blanks behind signs; the parts of these are the same; the law's walk.
-/
import Derived.Test.YtodnioihadpncaaDoorRgtC
import Derived.Test.YtodnioihadpncaaDoorRgtD
namespace Go.Proofs.YtodnioihadpncaaDoor
open Go.RowKit
set_option linter.unusedSimpArgs false
set_option linter.unusedVariables false
set_option maxRecDepth 100000

theorem mem_writeF : ∀ (ps : List Prt) (i : Int) (o : Nat) (p : Prt) (y : Txt), p ∈ ps → y ∈ p.ls → y ∈ writeF i o ps
  | q :: ps, i, o, p, y, hp, hy => by
    rw [writeF]
    rcases List.mem_cons.1 hp with rfl | hp
    · simp [hy]
    · have := mem_writeF ps (if q.dv then q.depth + 1 else q.depth) (if q.opn then o + 1 else o) p y hp hy
      simp [this]
theorem norm_len {l : List Txt} (h : ∀ s ∈ l, s.length ≤ 100) : ∀ y ∈ normF ([], []) l, y.length ≤ 100 := by
  intro y hy
  obtain ⟨i, hi, rfl⟩ := List.mem_iff_getElem.1 hy
  obtain ⟨hl, hg⟩ := normF_get l ([], [])
  have hi2 : i < l.length := by omega
  obtain ⟨k, hk⟩ := hg i l[i] _ (List.getElem?_eq_getElem hi2) (List.getElem?_eq_getElem hi)
  have h1 := h l[i] (List.getElem_mem hi2)
  have h2 := congrArg List.length hk
  rw [List.length_append] at h2
  omega
/-- How small the parts of such lines are. -/
theorem parse_small {ls : List Txt} (hlf : ∀ s ∈ ls, lfFree s = true) (h60 : ls.length ≤ 60) (h100 : ∀ s ∈ ls, s.length ≤ 100) :
    (parseL ls).length ≤ 60 ∧ ∀ p ∈ parseL ls, p.ls.length ≤ 60 ∧ p.lab.length ≤ 40 ∧ ∀ y ∈ p.ls, y.length ≤ 100 := by
  obtain ⟨a, _, _, d⟩ := parse_bound ls ls.length (Nat.le_refl _)
  rw [List.take_length] at a d
  obtain ⟨hr, hw⟩ := parse_right ls hlf
  refine ⟨by show (parseF ([], []) ls).1.length ≤ 60; omega, fun p hp => ⟨by have := d p hp; omega, ?_, fun y hy => ?_⟩⟩
  · obtain ⟨i, hi, rfl⟩ := List.mem_iff_getElem.1 hp
    have h1 := (rightF_at _ none 0 hr i _ (List.getElem?_eq_getElem hi)).1
    unfold rightPart at h1
    split at h1
    · simp only [Bool.and_eq_true, isLab, labOk, decide_eq_true_eq] at h1
      exact h1.1.2.2.2
    · simp only [Bool.and_eq_true, List.isEmpty_iff] at h1
      rw [h1.1.1.2]; simp
  · refine norm_len h100 y ?_
    rw [← hw]
    exact mem_writeF _ _ _ p y hp hy
/-- Lists of the call's own: nil has no room. -/
theorem own_nil {w : World} {B : Nat} {e : TypeId} {size n : Nat} {v : Value} {xs : List Value} (h : w.ownsRow B e size v n xs) : ∀ m c, v = .slice none m c → m = 0 ∧ c = 0 := by
  intro m c hv
  rcases h.2 with ⟨rfl, _⟩ | ⟨g, cap, cur, rfl, _⟩
  · cases hv; exact ⟨rfl, rfl⟩
  · cases hv

def strSz (v : Value) : Nat := match v with | .string s => s.size | _ => 0
def BkRel (y : Txt) (j0 : Nat) (wd : World) (a : Value) (wr : World) : Prop := ∃ j nd : Nat, a = .string ⟨(y ++ List.replicate j 32).toArray⟩ ∧ j ≤ j0 ∧ wr = wd.drewN nd
def FbRel (n : Nat) (w : World) (i : Value) (wr : World) : Prop := ∃ k nd : Nat, i = .int .i64 k ∧ k ≤ n ∧ wr = w.drewN nd
/-- One blank less. -/
theorem blank_less (y : Txt) (m : Nat) : (⟨(y ++ List.replicate (m + 1) 32).toArray⟩ : ByteArray).extract 0 (y.length + m) = ⟨(y ++ List.replicate m 32).toArray⟩ := by
  rw [ext_bytes]
  apply ByteArray.ext
  apply Array.ext'
  simp only [List.drop_zero, Nat.sub_zero]
  rw [List.replicate_succ', ← List.append_assoc, List.take_left' (by simp)]
theorem blank_last (y : Txt) (m : Nat) (h : y.length + m < (⟨(y ++ List.replicate (m + 1) 32).toArray⟩ : ByteArray).size) : (⟨(y ++ List.replicate (m + 1) 32).toArray⟩ : ByteArray)[y.length + m] = 32 := by
  have h2 : y.length + m < (y ++ List.replicate (m + 1) (32 : UInt8)).length := by rw [← str_size]; exact h
  have e : (⟨(y ++ List.replicate (m + 1) 32).toArray⟩ : ByteArray)[y.length + m] = (y ++ List.replicate (m + 1) (32 : UInt8))[y.length + m]'h2 := rfl
  rw [e, List.getElem_append_right (by omega)]
  simp

set_option maxHeartbeats 16000000 in
theorem frameBack_short (w : World) (hml : MaxL w) (A : Option Addr) (c : Nat) (ls : List Txt) (r0 : RowOf w A c (strs ls)) (hpl : plainL ls = true) (zl : ∀ y ∈ ls, y.length ≤ 9223372036854775807) :
    Calls Tryd.prog 3 #[.slice A ls.length c] w fun e w' => e = .returned (.bool true) ∧ Below w.heap.size w w' := by
  have hcl := r0.1
  have hcm := r0.2.1
  rw [strs_length] at hcl
  unfold maxLen at hcm
  obtain ⟨hlf, h60, h100⟩ := plain_lf hpl
  have cp := plain_any A c ls w r0 zl
  rw [hpl] at cp
  have cq := fun w1 hr => parse_any A c ls w1 hr (by omega) (fun y hy => by have := h100 y hy; omega)
  obtain ⟨hR, hW⟩ := parse_right ls hlf
  have hPW := parse_write (parseL ls) hR
  obtain ⟨hp60, hpsm⟩ := parse_small hlf h60 h100
  have hnl := norm_len h100
  obtain ⟨hng, hget⟩ := normF_get ls ([], [])
  rw [hW] at hPW
  have HW := Lib.hid hW
  clear hW
  generalize normF ([], []) ls = nf at *
  generalize parseL ls = ps at *
  have HR := Lib.hid hR
  have HNg := Lib.hid hng
  clear hng
  have HQ := Lib.hid cq
  have HML := Lib.hid hml
  have HPW := Lib.hid hPW
  have HSM := Lib.hid hpsm
  have HNL := Lib.hid hnl
  have HG := Lib.hid hget
  have H100 := Lib.hid h100
  clear hml hlf zl hpl hR cq hPW hpsm hnl hget h100
  go_enter Tryd.func3, Tryd.ntmps3
  go_wp2_with fail
  refine cp.mono ?_
  rintro e w0 ⟨rfl, rfl⟩
  go_wp2_with fail
  refine (alive6_any _ HML.out).mono ?_
  rintro e w1 ⟨rfl, b1⟩
  have r1 := r0.below b1
  go_wp2_with fail
  refine (HQ.out w1 r1).mono ?_
  rintro e w2 ⟨v, X, rfl, hO, hX, b2⟩
  have hXl : X.length = ps.length := by have := congrArg List.length hX; simpa using this
  have HXE := Lib.hid hX
  have hsm : PartsSmall X := fun x hx => by
    have := HSM.out x.1 (by rw [← HXE.out]; exact List.mem_map.2 ⟨x, hx, rfl⟩)
    exact ⟨by omega, fun y hy => by have := this.2.2 y hy; omega⟩
  have hln : PartsLent X := fun x hx => by
    have := HSM.out x.1 (by rw [← HXE.out]; exact List.mem_map.2 ⟨x, hx, rfl⟩)
    obtain ⟨i, hi, rfl⟩ := List.mem_iff_getElem.1 hx
    exact ⟨by omega, own_nil (hO.ls i _ (List.getElem?_eq_getElem hi))⟩
  have hX60 : X.length ≤ 60 := by omega
  clear hXl
  obtain ⟨A2, cap, rfl, hat⟩ := hO.at
  have cw := write_yes A2 cap X w2 hat (by omega) hsm hln (by rw [hX]; exact HR.out)
  rw [hX, HW.out] at cw
  have cr := fun w3 h => right_any A2 cap X w3 h (by omega) hsm
  rw [hX, HR.out] at cr
  have CR := Lib.hid cr
  have r2 := r1.below b2
  have HB2 := Lib.hid (b1.then b2)
  have HAT := Lib.hid hat
  clear b1 b2 hO hsm hln cr r1 hX hat
  go_wp2_with fail
  refine cw.mono ?_
  rintro e w3 ⟨v3, rfl, hown3, b3⟩
  obtain ⟨A3, c3, rfl, hr3, _⟩ := RowOf.own hown3
  have hat3 := HAT.out.below b3
  have r3 := r2.below b3
  have HB3 := Lib.hid (HB2.out.then b3)
  have HAT3 := Lib.hid hat3
  rw [HNg.out]
  clear hown3 b3 hat3 r2
  go_wp2_with fail
  refine (CR.out _ HAT3.out).mono ?_
  rintro e w4 ⟨rfl, b4⟩
  have hat4 := HAT3.out.below b4
  have r4 := r3.below b4
  have hr4 := hr3.below b4
  have hc3l := hr4.1
  have hc3m := hr4.2.1
  rw [strs_length, HNg.out] at hc3l
  unfold maxLen at hc3m
  have HB4 := Lib.hid (HB3.out.then b4)
  have HAT4 := Lib.hid hat4
  clear b4 hat4 r3 hr3
  go_wp2_with fail
  have hdr : w4.drewN 0 = w4 := rfl
  go_loopw [40] (fun i wr => FbRel ls.length w4 i wr) (fun i _ => ls.length - (intOf i).toNat)
  case atStart => exact ⟨0, 0, rfl, Nat.zero_le _, rfl⟩
  case round =>
    obtain ⟨k, nd, rfl, hk, rfl⟩ := hrel
    by_cases hp : k < ls.length
    · obtain ⟨bA, oA, rfl, hbA, hcA⟩ := r4.cellAt hp
      have hpn : k < nf.length := by rw [HNg.out]; exact hp
      obtain ⟨bW, oW, rfl, hbW, hcW⟩ := hr4.cellAt hpn
      obtain ⟨j, hj⟩ := HG.out k ls[k] nf[k] (List.getElem?_eq_getElem hp) (List.getElem?_eq_getElem hpn)
      have hle := H100.out ls[k] (List.getElem_mem hp)
      rw [hj] at hcA hle
      rw [List.length_append, List.length_replicate] at hle
      clear hj
      generalize nf[k] = y at *
      clear hpn
      go_wp2_with fail
      go_quiet (fail)
      go_wp2_with fail
      go_loopw [7] (fun a wr' => BkRel y j w4 a wr') (fun a _ => strSz a)
      case atStart => exact ⟨j, _, rfl, Nat.le_refl _, World.drewN_drewN _ _ _⟩
      case round =>
        obtain ⟨m, nd2, rfl, hmj, rfl⟩ := hrel
        cases m with
        | zero =>
          rw [show (y ++ List.replicate 0 (32 : UInt8)) = y from by simp]
          go_wp2
          go_roundw
          case rel => exact ⟨k + 1, _, by go_num, by omega, rfl⟩
          case measure => simp [intOf]; omega
        | succ m =>
          obtain ⟨q, hq⟩ : ∃ q, q = y.length + m := ⟨_, rfl⟩
          have hXs : (⟨(y ++ List.replicate (m + 1) 32).toArray⟩ : ByteArray).size = q + 1 := by rw [str_size, List.length_append, List.length_replicate]; omega
          have hYs : (⟨y.toArray⟩ : ByteArray).size = y.length := str_size y
          have hXq : q < (⟨(y ++ List.replicate (m + 1) 32).toArray⟩ : ByteArray).size := by omega
          have hlast : (⟨(y ++ List.replicate (m + 1) 32).toArray⟩ : ByteArray)[q] = 32 := by subst hq; exact blank_last y m hXq
          have hex := blank_less y m
          rw [← hq] at hex
          have hne : y ++ List.replicate (m + 1) 32 ≠ y := by
            intro e
            have := congrArg List.length e
            rw [List.length_append, List.length_replicate] at this
            omega
          have HM := Lib.hid (show q = y.length + m from hq)
          clear hq
          have HX' := Lib.hid (show (⟨(y ++ List.replicate m 32).toArray⟩ : ByteArray).size = q from by rw [str_size, List.length_append, List.length_replicate, HM.out])
          generalize hX : y ++ List.replicate (m + 1) 32 = x at *
          clear hX
          have fne : (@BEq.beq (List UInt8) (@List.instBEq UInt8 (@instBEqOfDecidableEq UInt8 instDecidableEqUInt8)) x y) = false := by simpa using hne
          have fne2 : (x != y) = true := by simpa using hne
          have hx0 : x ≠ [] := by intro e; rw [e] at hXs; simp [ByteArray.size] at hXs
          have fe0 : x.isEmpty = false := by rw [List.isEmpty_eq_false_iff]; exact hx0
          have fe1 : (x != []) = true := by simpa using hx0
          have f32 : (((⟨x.toArray⟩ : ByteArray)[q].toNat : Int) == 32) = true := by rw [hlast]; rfl
          have hq63 : q ≤ 200 := by have := HM.out; omega
          clear hlast hne hx0
          go_wp2
          exact ⟨⟨m, nd2, rfl, by omega, rfl⟩, by show (⟨(y ++ List.replicate m 32).toArray⟩ : ByteArray).size < (⟨x.toArray⟩ : ByteArray).size; rw [HX'.out, hXs]; omega⟩
    · obtain rfl : k = ls.length := by omega
      have bd : Below w4.heap.size w4 (w4.drewN nd) := below_drewN' (Below.refl _ _) nd
      have cq2 := parse_any A3 c3 nf (w4.drewN nd) (hr4.below bd) (by rw [HNg.out]; omega) (fun y hy => by have := HNL.out y hy; omega)
      rw [HPW.out, HNg.out] at cq2
      have HAD := Lib.hid (HAT4.out.below bd)
      have HBD := Lib.hid (HB4.out.then bd)
      clear bd
      go_wp2_with fail
      refine cq2.mono ?_
      rintro e w5 ⟨v5, X5, rfl, hO5, hX5, b5⟩
      obtain ⟨A5, cap5, rfl, hat5⟩ := hO5.at
      have csp := sameParts_any A5 A2 cap5 cap X5 X w5 hat5 (HAD.out.below b5)
      rw [hX5, HXE.out, decide_eq_true rfl] at csp
      have HB5 := Lib.hid (HBD.out.then b5)
      clear b5 hat5 hX5 hO5
      go_wp2_with fail
      refine csp.mono ?_
      rintro e w6 ⟨rfl, b6⟩
      go_wp2
      go_ret
      exact ⟨rfl, HB5.out.then b6⟩

theorem frameBack_walk (w : World) (hml : MaxL w) (A0 : Option Addr) (c0 : Nat) (z0 : List ByteArray) (r0 : RowOf w A0 c0 (z0.map Value.string)) (w0 : ∀ s ∈ z0, s.size ≤ maxLen) :
    Calls Tryd.prog 3 #[.slice A0 z0.length c0] w fun e w' => e = .returned (.bool true) ∧ Below w.heap.size w w' := by
  have hz : ∀ y ∈ (z0.map fun s => s.data.toList), y.length ≤ 9223372036854775807 := by
    intro y hy
    obtain ⟨s, hs, rfl⟩ := List.mem_map.1 hy
    have := w0 s hs
    have h2 : s.data.toList.length = s.size := by simp
    unfold maxLen at this
    omega
  rw [strs_of] at r0
  rw [show z0.length = (z0.map fun s => s.data.toList).length from by simp]
  generalize (z0.map fun s => s.data.toList) = ls at *
  cases hp : plainL ls with
  | true => exact frameBack_short w hml A0 c0 ls r0 hp hz
  | false =>
    have cp := plain_any A0 c0 ls w r0 hz
    rw [hp] at cp
    have HN := Lib.hid hml
    clear hml w0 r0 hz hp
    go_enter Tryd.func3, Tryd.ntmps3
    go_wp2_with fail
    refine cp.mono ?_
    rintro e w1 ⟨rfl, rfl⟩
    go_wp2_with (go_at_call 12; refine (alive6_any _ HN.out).mono ?_; rintro e w3 ⟨rfl, b2⟩)
    all_goals go_ret
    all_goals exact ⟨rfl, b2⟩

end Go.Proofs.YtodnioihadpncaaDoor
