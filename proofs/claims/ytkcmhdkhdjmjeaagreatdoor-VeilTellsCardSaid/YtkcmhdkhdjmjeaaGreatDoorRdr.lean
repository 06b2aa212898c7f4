/-
  The document's own reader (bowdlerref14's Reader): what it answers, in plain words.
-/
import Derived.Test.YtkcmhdkhdjmjeaaGreatDoorRfE
import Derived.Test.YtkcmhdkhdjmjeaaGreatDoorOrdE
import Derived.Test.YtkcmhdkhdjmjeaaGreatDoorSerA
namespace Go.Proofs.YtkcmhdkhdjmjeaaGreatDoor
open Go.RowKit
set_option linter.unusedSimpArgs false
set_option linter.unusedVariables false
set_option maxRecDepth 100000

theorem orders_fine (A : Option Addr) (ca n : Nat) (ps : List (Int × Int)) (w : World) (hpr : PairsAt w A ca ps) (h1 : 1 ≤ n) (h64 : n ≤ 64) (hl60 : ps.length ≤ 60) (he : errS n ps = 0) :
    Calls Tryz.prog 24 #[.int .i64 n, .slice A ps.length ca] w fun e w' => Below w.heap.size w w' ∧ ∃ p : OPlace, e = .returned (.tuple #[.pointer (some ⟨p.o, 0, none⟩), .int .i64 0]) ∧ OMem w' p n (leqS n ps) (joinR n (leqS n ps)) (meetR n (leqS n ps)) := by
  refine (orders_any A ca n ps w hpr h1 h64 hl60).mono ?_
  rintro e w1 ⟨hb, h⟩
  rcases h with ⟨_, h⟩ | ⟨h, _⟩
  · exact ⟨hb, h⟩
  · exact absurd he h
theorem orders_wrong (A : Option Addr) (ca n : Nat) (ps : List (Int × Int)) (w : World) (hpr : PairsAt w A ca ps) (h1 : 1 ≤ n) (h64 : n ≤ 64) (hl60 : ps.length ≤ 60) {k : Int} (he : errS n ps = k) (hk : k ≠ 0) :
    Calls Tryz.prog 24 #[.int .i64 n, .slice A ps.length ca] w fun e w' => e = .returned (.tuple #[.pointer none, .int .i64 k]) ∧ Below w.heap.size w w' := by
  refine (orders_any A ca n ps w hpr h1 h64 hl60).mono ?_
  rintro e w1 ⟨hb, h⟩
  rcases h with ⟨h, _⟩ | ⟨_, rfl⟩
  · exact absurd (he.symm.trans h) hk
  · exact ⟨by rw [he], hb⟩
theorem cells3 (w : World) (u0 u1 u2 : Value) (t : TypeId) : (w.alloc (.cells #[u0, u1, u2] t)).cell? ⟨w.heap.size, 0, none⟩ = some u0 ∧ (w.alloc (.cells #[u0, u1, u2] t)).cell? ⟨w.heap.size, 1, none⟩ = some u1 ∧ (w.alloc (.cells #[u0, u1, u2] t)).cell? ⟨w.heap.size, 2, none⟩ = some u2 := by
  refine ⟨?_, ?_, ?_⟩ <;> rw [cell_of_row _ _ _ #[u0, u1, u2] t (0, 0) (heap_alloc_new w _)] <;> rfl

set_option maxHeartbeats 4000000 in
theorem reader_any (A : Option Addr) (ca : Nat) (B : Option Addr) (cb : Nat) (ns : List (List UInt8)) (ps : List (Int × Int)) (x : ByteArray) (w : World) (hrow : RowOf w A ca (strs ns)) (hpr : PairsAt w B cb ps) (hr : rightL (ns, ps) = true) (hl : ps.length ≤ 60) :
    Calls Tryz.prog 7 #[.slice A ns.length ca, .slice B ps.length cb, .string x] w fun e w' => Below w.heap.size w w' ∧
      ((newErr (ns, ps) x.data.toList ≠ 0 ∧ e = .returned (.tuple #[.pointer none, .int .i64 (newErr (ns, ps) x.data.toList)])) ∨
       (newErr (ns, ps) x.data.toList = 0 ∧ ∃ b p, e = .returned (.tuple #[.pointer (some ⟨b, 0, none⟩), .int .i64 0]) ∧ RSeer w' b A ca p ns (leqS ns.length ps) (idxL ns x.data.toList).toNat)) := by
  have hR := (rightL_iff _).1 hr
  simp only at hR
  have h1 := hR.1.1
  have h64 := hR.1.2
  have HROW := Lib.hid hrow
  clear hR hrow
  by_cases he : errS ns.length ps = 0
  · have co := orders_fine B cb ns.length ps w hpr h1 h64 hl he
    have HE := Lib.hid he
    clear he hpr
    go_enter Tryz.func7, Tryz.ntmps7
    go_wp2_with fail
    refine co.mono ?_
    rintro e w1 ⟨b1, p, rfl, hO⟩
    have HO := Lib.hid hO
    have HB1 := Lib.hid b1
    have HROW1 := Lib.hid (HROW.out.below b1)
    have ca' := rat_all A ca ns x w1 HROW1.out
    clear hO b1 co
    rcases idx_nonneg ns x.data.toList with hi | ⟨k, hi⟩
    · have HF := Lib.hid (show newErr (ns, ps) x.data.toList = 2 from by unfold newErr; rw [if_neg (by rw [hr]; simp), if_neg (by simpa using HE.out), if_pos (by simp only; omega)])
      rw [hi] at ca'
      clear hi hr
      go_wp2_with fail
      refine ca'.mono ?_
      rintro e w3 ⟨rfl, rfl⟩
      go_wp2
      go_ret2
      exact ⟨HB1.out, Or.inl ⟨by rw [HF.out]; decide, by rw [HF.out]; rfl⟩⟩
    · have hkr := idxL_range ns x.data.toList
      have HF := Lib.hid (show newErr (ns, ps) x.data.toList = 0 from by unfold newErr; rw [if_neg (by rw [hr]; simp), if_neg (by simpa using HE.out), if_neg (by simp only; omega)])
      rw [hi] at ca' hkr
      have HI := Lib.hid hi
      clear hi hr
      go_wp2_with fail
      refine ca'.mono ?_
      rintro e w3 ⟨rfl, hwe⟩
      have hwe := hwe.symm
      subst hwe
      go_wp2
      go_ret2
      have b5 : Below w1.heap.size w1 (w1.alloc (.cells #[.slice A ns.length ca, .pointer (some ⟨p.o, 0, none⟩), .int .i64 k] 58)) := (Below.refl _ w1).alloc (Nat.le_refl _) _
      obtain ⟨q0, q1, q2⟩ := cells3 w1 (.slice A ns.length ca) (.pointer (some ⟨p.o, 0, none⟩)) (.int .i64 k) 58
      refine ⟨HB1.out.then b5, Or.inr ⟨HF.out, w1.heap.size, p, rfl, ?_⟩⟩
      rw [HI.out, Int.toNat_natCast]
      exact ⟨q0, q1, q2, HROW1.out.below b5, HO.out.below b5, by show k < ns.length; omega, ⟨fun a _ => leqS_refl _ ps a, fun a b m _ _ hm h1 h2 => leqS_trans hm h1 h2, (errS_zero HE.out).2.2.2⟩, h64⟩
  · have HF := Lib.hid (show newErr (ns, ps) x.data.toList = 1 from by unfold newErr; rw [if_neg (by rw [hr]; simp), if_pos he])
    have co := orders_wrong B cb ns.length ps w hpr h1 h64 hl rfl he
    have fe : (errS ns.length ps != 0) = true := by simpa using he
    clear hr he hpr
    generalize errS ns.length ps = z at *
    go_enter Tryz.func7, Tryz.ntmps7
    go_wp2_with fail
    refine co.mono ?_
    rintro e w2 ⟨rfl, b2⟩
    go_wp2
    go_ret2
    exact ⟨b2, Or.inl ⟨by rw [HF.out]; decide, by rw [HF.out]; rfl⟩⟩

end Go.Proofs.YtkcmhdkhdjmjeaaGreatDoor
