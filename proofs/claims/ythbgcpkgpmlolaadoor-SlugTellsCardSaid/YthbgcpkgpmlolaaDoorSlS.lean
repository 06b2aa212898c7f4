/-
  The document's own answers for chapter 16: At; Digits; the next anchor.
-/
import Derived.Test.YthbgcpkgpmlolaaDoorSlR
import Derived.Test.YthbgcpkgpmlolaaDoorSlH
namespace Go.Proofs.YthbgcpkgpmlolaaDoor
open Go.RowKit Go.Maps
set_option linter.unusedSimpArgs false
set_option linter.unusedVariables false
set_option maxRecDepth 100000

/-- Where a name stands, counted from i; -1: nowhere. -/
def polIdx : List (List UInt8) → List UInt8 → Int → Int
  | [], _, _ => -1
  | n :: ns, x, i => if n = x then i else polIdx ns x (i + 1)
def idxL (ns : List (List UInt8)) (x : List UInt8) : Int := polIdx ns x 0
theorem idxF_skip : ∀ (a b : List (List UInt8)) (x : List UInt8) (i : Int), x ∉ a → polIdx (a ++ b) x i = polIdx b x (i + a.length)
  | [], b, x, i, _ => by simp
  | n :: a, b, x, i, h => by
    rw [List.mem_cons, not_or] at h
    have h1 : ¬ n = x := fun e => h.1 e.symm
    rw [List.cons_append, polIdx, if_neg h1, idxF_skip a b x (i + 1) h.2, List.length_cons]
    congr 1
    omega
theorem idxF_cases : ∀ (ns : List (List UInt8)) (x : List UInt8) (i : Int), (polIdx ns x i = -1 ∧ x ∉ ns) ∨ (∃ k : Nat, ∃ h : k < ns.length, polIdx ns x i = i + k ∧ ns[k] = x ∧ x ∉ ns.take k)
  | [], x, i => Or.inl ⟨rfl, by simp⟩
  | n :: ns, x, i => by
    by_cases h : n = x
    · exact Or.inr ⟨0, by simp, by simp [polIdx, h], h, by simp⟩
    · rcases idxF_cases ns x (i + 1) with ⟨h1, h2⟩ | ⟨k, hk, h1, h2, h3⟩
      · exact Or.inl ⟨by simp [polIdx, h, h1], by simp [h2]; exact fun e => h e.symm⟩
      · refine Or.inr ⟨k + 1, by simp; omega, by simp [polIdx, h, h1]; omega, by simpa using h2, ?_⟩
        rw [List.take_succ_cons, List.mem_cons, not_or]
        exact ⟨fun e => h e.symm, h3⟩
theorem idxL_cases (ns : List (List UInt8)) (x : List UInt8) : (idxL ns x = -1 ∧ x ∉ ns) ∨ (∃ k : Nat, ∃ h : k < ns.length, idxL ns x = k ∧ ns[k] = x ∧ x ∉ ns.take k) := by
  rcases idxF_cases ns x 0 with h | ⟨k, hk, h1, h2⟩
  · exact Or.inl h
  · exact Or.inr ⟨k, hk, by unfold idxL; rw [h1]; omega, h2⟩
theorem idxL_none {ns : List (List UInt8)} {x : List UInt8} (h : x ∉ ns) : idxL ns x = -1 := by
  rcases idxL_cases ns x with ⟨h1, _⟩ | ⟨k, hk, h1, h2, _⟩
  · exact h1
  · exact absurd (h2 ▸ List.getElem_mem hk) h

def RAtRel (ns : List (List UInt8)) (x : List UInt8) (w : World) (i : Value) (wr : World) : Prop := ∃ k : Nat, i = .int .i64 k ∧ k ≤ ns.length ∧ x ∉ ns.take k ∧ wr = w

set_option maxHeartbeats 4000000 in
theorem rat_all (A : Option Addr) (ca : Nat) (ns : List (List UInt8)) (s : ByteArray) (w : World) (hr : RowOf w A ca (strs ns)) :
    Calls Tryd.prog 14 #[.slice A ns.length ca, .string s] w fun e w' => e = .returned (.int .i64 (idxL ns s.data.toList)) ∧ w' = w := by
  have hc1 := hr.1
  have hc2 := hr.2.1
  rw [strs_length] at hc1
  unfold maxLen at hc2
  have HR := Lib.hid hr
  clear hr
  go_enter Tryd.func14, Tryd.ntmps14
  go_wp2_with fail
  go_loopw [5] (fun i wr => RAtRel ns s.data.toList w i wr) (fun i _ => ns.length - (intOf i).toNat)
  case atStart => exact ⟨0, rfl, Nat.zero_le _, by simp, rfl⟩
  case round =>
    obtain ⟨k, rfl, hk, hno, hwe⟩ := hrel
    have hwe := hwe.symm
    subst hwe
    by_cases hp : k < ns.length
    · obtain ⟨b, off, rfl, hb, hcell⟩ := HR.out.cellAt hp
      by_cases he : ns[k] = s.data.toList
      · have fe : ((⟨ns[k].toArray⟩ : ByteArray).toList == s.toList) = true := by rw [beq_iff_eq, ByteArray.toList_eq, ByteArray.toList_eq]; exact he
        have fe2 : (ns[k] == s.toList) = true := by rw [beq_iff_eq, ByteArray.toList_eq]; exact he
        have HI := Lib.hid (show idxL ns s.data.toList = k from by
          rcases idxL_cases ns s.data.toList with ⟨_, h⟩ | ⟨j, hj, h1, h2, h3⟩
          · exact absurd (he ▸ List.getElem_mem hp) h
          · rw [h1]
            rcases Nat.lt_trichotomy j k with h | h | h
            · exfalso; apply hno
              rw [← h2]
              exact List.mem_take_iff_getElem.2 ⟨j, by omega, rfl⟩
            · rw [h]
            · exfalso; apply h3
              rw [← he]
              exact List.mem_take_iff_getElem.2 ⟨k, by omega, rfl⟩)
        clear he hno hb
        go_wp2
        go_ret
        exact ⟨ret_int HI.out.symm, rfl⟩
      · have fe : ((⟨ns[k].toArray⟩ : ByteArray).toList == s.toList) = false := by rw [beq_eq_false_iff_ne, ByteArray.toList_eq, ByteArray.toList_eq]; exact he
        have fe2 : (ns[k] == s.toList) = false := by rw [beq_eq_false_iff_ne, ByteArray.toList_eq]; exact he
        have HI := Lib.hid (show s.data.toList ∉ ns.take (k + 1) from by
          rw [List.take_succ_eq_append_getElem hp, List.mem_append]
          rintro (h | h)
          · exact hno h
          · simp at h; exact he h.symm)
        clear he hno hb
        go_wp2
        exact ⟨⟨k + 1, by go_num, by omega, HI.out, rfl⟩, by simp [intOf]; omega⟩
    · have HI := Lib.hid (show idxL ns s.data.toList = -1 from idxL_none (by rw [← List.take_of_length_le (l := ns) (show ns.length ≤ k from by omega)]; exact hno))
      clear hno
      go_wp2
      go_ret
      exact ⟨ret_int HI.out.symm, rfl⟩


theorem idxL_neg (ns : List (List UInt8)) (x : List UInt8) : decide (idxL ns x < 0) = decide (x ∉ ns) ∧ decide (0 ≤ idxL ns x) = decide (x ∈ ns) := by
  rcases idxL_cases ns x with ⟨h, hn⟩ | ⟨k, hk, h, h2, _⟩
  · rw [h]; simp [hn]
  · have hx : x ∈ ns := h2 ▸ List.getElem_mem hk
    rw [h]; simp [hx]

set_option maxHeartbeats 8000000 in
theorem refDigits_any (n : Nat) (w : World) (h1 : 1 ≤ n) (h2 : n < 100) :
    Calls Tryd.prog 15 #[.int .i64 n] w fun e w' => e = .returned (.string ⟨(Lib.decDigits n).toArray⟩) ∧ Below w.heap.size w w' := by
  have hn0 : ((n : Int) == 0) = false := by simp; omega
  have hcv := fun (q : UInt8) W => conv_u8 q W
  by_cases h9 : n < 10
  · have hd : ((UInt8.ofNat (48 + n)).toNat : Int) = 48 + (n : Int) := many_digit n h9
    have hq : (n : Int) / 10 = 0 := by omega
    have hr : (n : Int) % 10 = n := by omega
    have hcv := fun W => conv_u8 (UInt8.ofNat (48 + n)) W
    rw [hd] at hcv
    rw [Lib.decDigits_one h9]
    have HB := Lib.hid ((Below.refl w.heap.size w).alloc (Nat.le_refl _) (.cells #[.int .u8 (48 + (n : Int))] 5))
    generalize UInt8.ofNat (48 + n) = q at *
    have r1 := fun W => run_string_add_sum (P := Tryd.prog) W (⟨#[q]⟩ : ByteArray) (⟨#[]⟩ : ByteArray) (by show 1 + 0 ≤ _; omega)
    rw [show (⟨#[q]⟩ : ByteArray) ++ (⟨#[]⟩ : ByteArray) = ⟨#[q]⟩ from str_cat [q] []] at r1
    have e1 := toList_ne (s := (⟨#[q]⟩ : ByteArray)) (by show 0 < 1; omega)
    have e2 := toList_empty (s := (⟨#[q]⟩ : ByteArray)) (by show 0 < 1; omega)
    go_enter Tryd.func15, Tryd.ntmps15
    go_wp2_with fail
    refine wp_loop_rounds 2 ?_
    rw [rounds_succ]
    go_wp2_with fail
    rw [rounds_succ]
    go_wp2
    go_ret
    exact ⟨rfl, HB.out⟩
  · have hd : ((UInt8.ofNat (48 + n % 10)).toNat : Int) = 48 + (n : Int) % 10 := (many_digit _ (by omega)).trans (by omega)
    have hd2 : ((UInt8.ofNat (48 + n / 10)).toNat : Int) = 48 + (n : Int) / 10 := (many_digit _ (by omega)).trans (by omega)
    have hq0 : ((n : Int) / 10 == 0) = false := by simp; omega
    have hq : (n : Int) / 10 / 10 = 0 := by omega
    have hr : (n : Int) / 10 % 10 = (n : Int) / 10 := by omega
    have hg1 : 0 ≤ (n : Int) / 10 := by omega
    have hg2 : (n : Int) / 10 ≤ 9 := by omega
    have hcv := fun W => conv_u8 (UInt8.ofNat (48 + n % 10)) W
    have hcv2 := fun W => conv_u8 (UInt8.ofNat (48 + n / 10)) W
    rw [hd] at hcv
    rw [hd2] at hcv2
    have hcvB := hcv2 (w.alloc (.cells #[.int .u8 (48 + (n : Int) % 10)] 5))
    rw [alloc_size] at hcvB
    rw [Lib.decDigits_two h9 h2]
    have HB := Lib.hid (((Below.refl w.heap.size w).alloc (Nat.le_refl _) (.cells #[.int .u8 (48 + (n : Int) % 10)] 5)).alloc (((Below.refl w.heap.size w).alloc (Nat.le_refl _) (.cells #[.int .u8 (48 + (n : Int) % 10)] 5)).size) (.cells #[.int .u8 (48 + (n : Int) / 10)] 5))
    generalize UInt8.ofNat (48 + n % 10) = q at *
    generalize UInt8.ofNat (48 + n / 10) = q2 at *
    have r1 := fun W => run_string_add_sum (P := Tryd.prog) W (⟨#[q]⟩ : ByteArray) (⟨#[]⟩ : ByteArray) (by show 1 + 0 ≤ _; omega)
    rw [show (⟨#[q]⟩ : ByteArray) ++ (⟨#[]⟩ : ByteArray) = ⟨#[q]⟩ from str_cat [q] []] at r1
    have r2 := fun W => run_string_add_sum (P := Tryd.prog) W (⟨#[q2]⟩ : ByteArray) (⟨#[q]⟩ : ByteArray) (by show 1 + 1 ≤ _; omega)
    rw [show (⟨#[q2]⟩ : ByteArray) ++ (⟨#[q]⟩ : ByteArray) = ⟨#[q2, q]⟩ from str_cat [q2] [q]] at r2
    have e1 := toList_ne (s := (⟨#[q]⟩ : ByteArray)) (by show 0 < 1; omega)
    have e2 := toList_empty (s := (⟨#[q]⟩ : ByteArray)) (by show 0 < 1; omega)
    have e3 := toList_ne (s := (⟨#[q2, q]⟩ : ByteArray)) (by show 0 < 2; omega)
    have e4 := toList_empty (s := (⟨#[q2, q]⟩ : ByteArray)) (by show 0 < 2; omega)
    go_enter Tryd.func15, Tryd.ntmps15
    go_wp2_with fail
    refine wp_loop_rounds 3 ?_
    rw [rounds_succ]
    go_wp2_with fail
    rw [rounds_succ]
    go_wp2_with fail
    rw [rounds_succ]
    go_wp2
    go_ret
    exact ⟨rfl, HB.out⟩

/-! ### The next anchor -/
def RnRel (had : List (List UInt8)) (id : List UInt8) (w : World) (k : Value) (wr : World) : Prop := ∃ n : Nat, k = .int .i64 n ∧ 2 ≤ n ∧ n ≤ slLeast had id ∧ Below w.heap.size w wr
theorem num_cat (id : List UInt8) (n : Nat) : (⟨id.toArray⟩ : ByteArray) ++ (⟨#[45]⟩ : ByteArray) ++ (⟨(Lib.decDigits n).toArray⟩ : ByteArray) = ⟨(slNum id n).toArray⟩ := by
  rw [show (⟨#[45]⟩ : ByteArray) = ⟨([45] : List UInt8).toArray⟩ from rfl, str_cat, str_cat]; unfold slNum; simp

set_option maxHeartbeats 8000000 in
theorem refAnchor_any (A : Option Addr) (ca : Nat) (had : List (List UInt8)) (s : ByteArray) (w : World) (hr : RowOf w A ca (strs had)) (hs : s.size ≤ 1000000) (hh : had.length ≤ 60) (hT : Tabs w) :
    Calls Tryd.prog 9 #[.slice A had.length ca, .string s] w fun e w' => e = .returned (.string ⟨(slNext had s.data.toList).toArray⟩) ∧ Below w.heap.size w w' := by
  have cs := refSlug_any s w hs hT
  have hl := slugL_len s.data.toList
  have hnx : slNext had s.data.toList = if slugL s.data.toList ∈ had then slNum (slugL s.data.toList) (slLeast had (slugL s.data.toList)) else slugL s.data.toList := rfl
  generalize slNext had s.data.toList = nx at *
  generalize slugL s.data.toList = id at *
  obtain ⟨l1, l2, l3, l4⟩ := slLeast_is had id hh
  have hc1 := hr.1
  have hc2 := hr.2.1
  rw [strs_length] at hc1
  unfold maxLen at hc2
  have HR := Lib.hid hr
  have HL := Lib.hid (And.intro l3 l4)
  have HNX := Lib.hid hnx
  clear hr hT l3 l4 hnx
  go_enter Tryd.func9, Tryd.ntmps9
  go_wp2_with fail
  refine cs.mono ?_
  rintro e w1 ⟨rfl, b1⟩
  have HB1 := Lib.hid b1
  have ca1 := rat_all A ca had ⟨id.toArray⟩ w1 (HR.out.below b1)
  have hn1 := (idxL_neg had id).1
  rw [show (⟨id.toArray⟩ : ByteArray).data.toList = id from rfl] at ca1
  have CA1 := Lib.hid ca1
  clear b1 cs ca1
  by_cases hin : id ∈ had
  · rw [show decide (id ∉ had) = false from by simp [hin]] at hn1
    generalize idxL had id = r at *
    go_wp2_with fail
    refine CA1.out.mono ?_
    rintro e w' ⟨rfl, rfl⟩
    go_wp2_with fail
    go_loopw [6] (fun k wr => RnRel had id w k wr) (fun k _ => slLeast had id - (intOf k).toNat)
    case atStart => exact ⟨2, rfl, Nat.le_refl _, l1, HB1.out⟩
    case round =>
      obtain ⟨n, rfl, hn2, hnl, hbw⟩ := hrel
      have hszi : (⟨id.toArray⟩ : ByteArray).size = id.length := str_size _
      have eP : (⟨id.toArray⟩ : ByteArray) ++ (⟨#[45]⟩ : ByteArray) = ⟨(id ++ [45]).toArray⟩ := str_cat id [45]
      have hdl := (decDigits_ok (n := n) (by omega)).2.2
      have r1 := fun W => run_string_add_sum (P := Tryd.prog) W (⟨id.toArray⟩ : ByteArray) (⟨#[45]⟩ : ByteArray) (by rw [hszi]; show id.length + 1 ≤ _; omega)
      have r2 := fun W => run_string_add_sum (P := Tryd.prog) W (⟨(id ++ [45]).toArray⟩ : ByteArray) (⟨(Lib.decDigits n).toArray⟩ : ByteArray) (by rw [str_size, str_size]; simp; omega)
      rw [eP] at r1
      rw [← eP, num_cat] at r2
      rw [eP] at r2
      have cd := refDigits_any n wr (by omega) (by omega)
      generalize hdd : (⟨(Lib.decDigits n).toArray⟩ : ByteArray) = d at *
      have CD := Lib.hid cd
      have HBW := Lib.hid hbw
      clear cd hbw hszi eP hdl
      go_wp2_with fail
      refine CD.out.mono ?_
      rintro e w5 ⟨rfl, b5⟩
      have HB5 := Lib.hid (HBW.out.then b5)
      have ca2 := rat_all A ca had ⟨(slNum id n).toArray⟩ w5 (HR.out.below HB5.out)
      rw [show (⟨(slNum id n).toArray⟩ : ByteArray).data.toList = slNum id n from rfl] at ca2
      have hn5 := (idxL_neg had (slNum id n)).2
      have CA2 := Lib.hid ca2
      clear b5 ca2
      generalize hix : idxL had (slNum id n) = r5 at *
      by_cases hlt : n < slLeast had id
      · rw [decide_eq_true (HL.out.2 n hn2 hlt)] at hn5
        clear hix
        go_wp2_with fail
        refine CA2.out.mono ?_
        rintro e w' ⟨rfl, rfl⟩
        go_wp2
        all_goals first
          | exact ⟨⟨n + 1, by go_num, by omega, by omega, HB5.out⟩, by simp only [intOf]; omega⟩
          | (go_round
             case rel => exact ⟨n + 1, by go_num, by omega, by omega, HB5.out⟩
             case measure => simp [intOf]; omega)
      · obtain rfl : n = slLeast had id := by omega
        rw [decide_eq_false HL.out.1] at hn5
        have cd6 := refDigits_any (slLeast had id) w5 (by omega) (by omega)
        have hn6 : nx = slNum id (slLeast had id) := by rw [HNX.out, if_pos hin]
        have hde : (⟨(Lib.decDigits (slLeast had id)).toArray⟩ : ByteArray) = d := hdd
        rw [hde] at cd6
        have CD6 := Lib.hid cd6
        clear cd6 hde hix
        go_wp2_with fail
        refine CA2.out.mono ?_
        rintro e w' ⟨rfl, rfl⟩
        go_wp2_with fail
        refine CD6.out.mono ?_
        rintro e w6 ⟨rfl, b6⟩
        have HB6 := Lib.hid (HB5.out.then b6)
        go_wp2
        go_ret
        subst hn6
        exact ⟨rfl, HB6.out⟩
  · have hn1' : nx = id := by rw [HNX.out, if_neg hin]
    rw [show decide (id ∉ had) = true from by simp [hin]] at hn1
    generalize idxL had id = r at *
    subst hn1'
    go_wp2_with fail
    refine CA1.out.mono ?_
    rintro e w' ⟨rfl, rfl⟩
    go_wp2
    go_ret
    exact ⟨rfl, HB1.out⟩

end Go.Proofs.YthbgcpkgpmlolaaDoor
