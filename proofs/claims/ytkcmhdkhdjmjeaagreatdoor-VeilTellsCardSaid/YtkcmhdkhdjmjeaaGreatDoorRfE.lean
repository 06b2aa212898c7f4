/-
  The document's own reader (bowdlerref1's Seer): At, Sees: what each answers, in plain words.
-/
import Derived.Test.YtkcmhdkhdjmjeaaGreatDoorOrdB
import Derived.Test.YtkcmhdkhdjmjeaaGreatDoorSerA
namespace Go.Proofs.YtkcmhdkhdjmjeaaGreatDoor
open Go.RowKit
set_option linter.unusedSimpArgs false
set_option linter.unusedVariables false
set_option maxRecDepth 100000

def RAtRel (ns : List (List UInt8)) (x : List UInt8) (w : World) (i : Value) (wr : World) : Prop := ∃ k : Nat, i = .int .i64 k ∧ k ≤ ns.length ∧ x ∉ ns.take k ∧ wr = w

set_option maxHeartbeats 4000000 in
theorem rat_all (A : Option Addr) (ca : Nat) (ns : List (List UInt8)) (s : ByteArray) (w : World) (hr : RowOf w A ca (strs ns)) :
    Calls Tryz.prog 12 #[.slice A ns.length ca, .string s] w fun e w' => e = .returned (.int .i64 (idxL ns s.data.toList)) ∧ w' = w := by
  have hc1 := hr.1
  have hc2 := hr.2.1
  rw [strs_length] at hc1
  unfold maxLen at hc2
  have HR := Lib.hid hr
  clear hr
  go_enter Tryz.func12, Tryz.ntmps12
  go_wp2_with fail
  go_loopw [5] (fun i wr => RAtRel ns s.data.toList w i wr) (fun i _ => ns.length - (intOf i).toNat)
  case atStart => exact ⟨0, rfl, Nat.zero_le _, by simp, rfl⟩
  case round =>
    obtain ⟨k, rfl, hk, hno, hwe⟩ := hrel
    have hwe := hwe.symm
    subst hwe
    by_cases hp : k < ns.length
    · obtain ⟨b, off, rfl, hb, hcell⟩ := HR.out.cellAt hp
      by_cases he : ns[k] = s.data.toList
      · have fe : ((⟨ns[k].toArray⟩ : ByteArray).toList == s.toList) = true := by rw [beq_iff_eq, ByteArray.toList_eq, ByteArray.toList_eq]; exact he
        have fe2 : (ns[k] == s.toList) = true := by rw [beq_iff_eq, ByteArray.toList_eq]; exact he
        have HI := Lib.hid (show idxL ns s.data.toList = k from by
          rcases idxL_cases ns s.data.toList with ⟨_, h⟩ | ⟨j, hj, h1, h2, h3⟩
          · exact absurd (he ▸ List.getElem_mem hp) h
          · rw [h1]
            rcases Nat.lt_trichotomy j k with h | h | h
            · exfalso; apply hno
              rw [← h2]
              exact List.mem_take_iff_getElem.2 ⟨j, by omega, rfl⟩
            · rw [h]
            · exfalso; apply h3
              rw [← he]
              exact List.mem_take_iff_getElem.2 ⟨k, by omega, rfl⟩)
        clear he hno hb
        go_wp2
        go_ret
        exact ⟨ret_int HI.out.symm, rfl⟩
      · have fe : ((⟨ns[k].toArray⟩ : ByteArray).toList == s.toList) = false := by rw [beq_eq_false_iff_ne, ByteArray.toList_eq, ByteArray.toList_eq]; exact he
        have fe2 : (ns[k] == s.toList) = false := by rw [beq_eq_false_iff_ne, ByteArray.toList_eq]; exact he
        have HI := Lib.hid (show s.data.toList ∉ ns.take (k + 1) from by
          rw [List.take_succ_eq_append_getElem hp, List.mem_append]
          rintro (h | h)
          · exact hno h
          · simp at h; exact he h.symm)
        clear he hno hb
        go_wp2
        exact ⟨⟨k + 1, by go_num, by omega, HI.out, rfl⟩, by simp [intOf]; omega⟩
    · have HI := Lib.hid (show idxL ns s.data.toList = -1 from idxL_none (by rw [← List.take_of_length_le (l := ns) (show ns.length ≤ k from by omega)]; exact hno))
      clear hno
      go_wp2
      go_ret
      exact ⟨ret_int HI.out.symm, rfl⟩

structure RSeer (w : World) (b : Nat) (A : Option Addr) (ca : Nat) (p : OPlace) (ns : List (List UInt8)) (R : Rel) (me : Nat) : Prop where
  c0 : w.cell? ⟨b, 0, none⟩ = some (.slice A ns.length ca)
  c1 : w.cell? ⟨b, 1, none⟩ = some (.pointer (some ⟨p.o, 0, none⟩))
  c2 : w.cell? ⟨b, 2, none⟩ = some (.int .i64 me)
  row : RowOf w A ca (strs ns)
  mem : OMem w p ns.length R (joinR ns.length R) (meetR ns.length R)
  lt : me < ns.length
  lat : Lat ns.length R
  le : ns.length ≤ 64
section
variable {w w' : World} {b : Nat} {A : Option Addr} {ca : Nat} {p : OPlace} {ns : List (List UInt8)} {R : Rel} {me : Nat}
theorem RSeer.below (h : RSeer w b A ca p ns R me) (hb : Below w.heap.size w w') : RSeer w' b A ca p ns R me := by
  have hlt : b < w.heap.size := World.block_lt_of_cell? _ _ h.c0
  exact ⟨(hb.cell (p := ⟨b, 0, none⟩) hlt).trans h.c0, (hb.cell (p := ⟨b, 1, none⟩) hlt).trans h.c1, (hb.cell (p := ⟨b, 2, none⟩) hlt).trans h.c2, h.row.below hb, h.mem.below hb, h.lt, h.lat, h.le⟩
theorem RSeer.pos (h : RSeer w b A ca p ns R me) : 1 ≤ ns.length := by have := h.lt; omega
def RSeesRel (ns : List (List UInt8)) (R : Rel) (ls : List (List UInt8)) (w : World) (j i : Value) (wr : World) : Prop :=
  ∃ k : Nat, i = .int .i64 k ∧ k ≤ ls.length ∧ j = .int .i64 (jnL ns R (ls.take k) (botN ns.length R)) ∧ Below w.heap.size w wr

set_option maxHeartbeats 8000000 in
theorem rsees_any (h : RSeer w b A ca p ns R me) (B : Option Addr) (cb : Nat) (ls : List (List UInt8)) (hrow : RowOf w B cb (strs ls)) :
    Calls Tryz.prog 14 #[.pointer (some ⟨b, 0, none⟩), .slice B ls.length cb] w fun e w' => e = .returned (.bool (seesL ns R me ls)) ∧ Below w.heap.size w w' := by
  have hc1 := hrow.1
  have hc2 := hrow.2.1
  rw [strs_length] at hc1
  unfold maxLen at hc2
  have q1 := h.c1
  have ce := edge_any false w h.mem h.le
  have hbot := botN_spec h.lat h.pos
  rw [show topR ns.length (dirR false R) = botR ns.length R from rfl, hbot.1] at ce
  have HS := Lib.hid h
  have HROW := Lib.hid hrow
  clear h hrow hbot
  go_enter Tryz.func14, Tryz.ntmps14
  go_wp2_with fail
  refine ce.mono ?_
  rintro e w1 ⟨rfl, hw1⟩
  have hw1 := hw1.symm
  subst hw1
  clear ce
  go_wp2_with fail
  go_loopw [5, 6] (fun j i wr => RSeesRel ns R ls w j i wr) (fun _ i _ => ls.length - (intOf i).toNat)
  case atStart => exact ⟨0, rfl, Nat.zero_le _, rfl, Below.refl _ _⟩
  case round =>
    obtain ⟨k, rfl, hk, rfl, hbw⟩ := hrel
    have hs := HS.out.below hbw
    have hjl := jnL_lt HS.out.lat HS.out.pos (ls.take k) _ (botN_spec HS.out.lat HS.out.pos).2.1
    by_cases hp : k < ls.length
    · obtain ⟨b1, o1, rfl, hl1, hc⟩ := (HROW.out.below hbw).cellAt hp
      have HJT := Lib.hid (jnL_take ns R ls k (botN ns.length R) hp)
      obtain ⟨hy, hyv⟩ := lvN_spec hs.lat hs.pos ls[k]
      generalize jnL ns R (ls.take k) (botN ns.length R) = j at *
      generalize hx : ls[k] = x at *
      generalize lvN ns R x = y at *
      have HSM := Lib.hid (fun m => hs.below (below_drewN' (Below.refl _ wr) m))
      have HCA := Lib.hid (fun m => rat_all A ca ns ⟨x.toArray⟩ (wr.drewN m) (HSM.out m).row)
      have HBW := Lib.hid (fun m => below_drewN' hbw m)
      have q0 := hs.c0
      have HJ := Lib.hid (joinN_spec hs.lat hjl hy).1
      have HROW2 := Lib.hid HROW.out
      clear hs hbw q1
      by_cases hi : 0 ≤ idxL ns x
      · rw [if_pos hi] at hyv
        rw [hyv] at HCA
        clear hi
        go_wp2_with fail
        go_quiet ((go_at_call 12; exact Calls.quiet_of_same (HCA.out _)))
        have hs2 := HSM.out nq
        have hb2 := HBW.out nq
        generalize wr.drewN nq = wx at *
        have q1 := hs2.c1
        have m2 := hs2.mem.c2
        have r2 := hs2.mem.rJ j hjl
        have e2 := hs2.mem.eJ j y hjl hy
        have hcap := hs2.mem.cap
        unfold maxLen at hcap
        rw [HJ.out, ← HJT.out] at e2
        have HB2 := Lib.hid hb2
        clear hs2 hb2 HSM HCA HBW q0 hc HS HROW HROW2
        go_wp2
        go_roundw
        case rel => exact ⟨k + 1, by go_num, by omega, rfl, HB2.out⟩
        case measure => simp [intOf]; omega
      · rw [if_neg hi] at hyv
        have hneg : idxL ns x < 0 := by omega
        have hneg2 : idxL ns x = -1 := by have := idxL_range ns x; omega
        rw [hneg2] at HCA
        clear hi hneg hneg2
        go_wp2_with fail
        go_quiet ((go_at_call 12; exact Calls.quiet_of_same (HCA.out _)))
        have hs2 := HSM.out nq
        have hb2 := HBW.out nq
        generalize wr.drewN nq = wx at *
        have q1 := hs2.c1
        have m2 := hs2.mem.c2
        have r2 := hs2.mem.rJ j hjl
        have e2 := hs2.mem.eJ j y hjl hy
        have hcap := hs2.mem.cap
        unfold maxLen at hcap
        have ce2 := edge_any true wx hs2.mem hs2.le
        rw [show topR ns.length (dirR true R) = topR ns.length R from rfl, hyv] at ce2
        rw [HJ.out, ← HJT.out] at e2
        have HB2 := Lib.hid hb2
        clear hs2 hb2 HSM HCA HBW q0 hc HS HROW HROW2 hyv
        go_wp2_with fail
        refine ce2.mono ?_
        rintro e w1 ⟨rfl, hw1⟩
        have hw1 := hw1.symm
        subst hw1
        clear ce2
        go_wp2
        go_roundw
        case rel => exact ⟨k + 1, by go_num, by omega, rfl, HB2.out⟩
        case measure => simp [intOf]; omega
    · obtain rfl : k = ls.length := by omega
      rw [List.take_length] at *
      have HR := Lib.hid (show seesL ns R me ls = R (jnL ns R ls (botN ns.length R)) me from rfl)
      generalize jnL ns R ls (botN ns.length R) = j at *
      have q1' := hs.c1
      have q2' := hs.c2
      have m1 := hs.mem.c1
      have r1 := hs.mem.rL j hjl
      have e1 := hs.mem.eL j me hjl hs.lt
      have hlt := hs.lt
      have hcap := hs.mem.cap
      unfold maxLen at hcap
      clear HS HROW q1 hs
      go_wp2_with fail
      go_quiet (fail)
      go_wp2
      go_ret
      exact ⟨ret_bool HR.out.symm, below_drewN' hbw _⟩
end

end Go.Proofs.YtkcmhdkhdjmjeaaGreatDoor
