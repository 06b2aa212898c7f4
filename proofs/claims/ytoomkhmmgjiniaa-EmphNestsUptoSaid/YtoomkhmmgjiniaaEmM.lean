/-
  Package emph: deeper, row.
-/
import Derived.Test.YtoomkhmmgjiniaaEmG
import Derived.Test.YtoomkhmmgjiniaaCvB
namespace Go.Proofs.Ytoomkhmmgjiniaa
open Go.RowKit
set_option linter.unusedSimpArgs false
set_option linter.unusedVariables false
set_option maxRecDepth 100000

def deepX (d : Int) (x : Iln) : Iln := { x with dp := IntKind.i64.wrap (x.dp + d) }
theorem deepBy_is (d : Int) (l : List Iln) : deepBy d l = l.map (deepX d) := rfl
set_option maxHeartbeats 4000000 in
theorem deeper_any (d : Int) (A : Option Addr) (cap : Nat) (X : List Iln) (w : World) (hrow : InlsAt w A cap X) (hn : X.length ≤ 100000000) :
    Calls Try.prog 24 #[.int .i64 d, .slice A X.length cap] w fun e w' => ∃ v, e = .returned v ∧ w'.ownsRow w.heap.size 30 5 v X.length (flt ilC (deepBy d X)) ∧ Below w.heap.size w w' := by
  have cc := clone_inls A cap X w hrow hn
  clear hrow
  go_enter Try.func24, Try.ntmps24
  go_wp2_with fail
  refine cc.mono ?_
  rintro e w1 ⟨v, rfl, ho, b1⟩
  obtain ⟨A1, c1, rfl, hr1⟩ := EltsAt.own ilC_length ho
  have HO := Lib.hid ho
  have hs1 := b1.size
  clear ho hr1
  go_wp2_with fail
  go_loopw [11] (fun i wr => ∃ k : Nat, i = .int .i64 k ∧ k ≤ X.length ∧ wr.ownsRow w.heap.size 30 5 (.slice A1 X.length c1) X.length (flt ilC (deepBy d (X.take k) ++ X.drop k)) ∧ Below w.heap.size w wr) (fun i _ => X.length - (intOf i).toNat)
  case atStart => exact ⟨0, rfl, Nat.zero_le _, HO.out, b1⟩
  case round =>
    obtain ⟨k, rfl, hk, hown, hbw⟩ := hrel
    by_cases hp : k < X.length
    · obtain ⟨g, c, e, hg, hgl⟩ := hown.form (by omega)
      cases e
      have hll : (deepBy d (X.take k) ++ X.drop k).length = X.length := by rw [List.length_append, deepBy_is, List.length_map, List.length_take, List.length_drop]; omega
      have hget : (deepBy d (X.take k) ++ X.drop k)[k]? = some X[k] := by
        rw [List.getElem?_append_right (by rw [deepBy_is, List.length_map, List.length_take]; omega), List.getElem?_drop, deepBy_is, List.length_map, List.length_take, Nat.min_eq_left hk, Nat.sub_self, Nat.add_zero, List.getElem?_eq_getElem hp]
      have c1' : wr.cell? ⟨g, k * 5 + 1, none⟩ = some (.int .i64 X[k].dp) := own_elt ilC_length hown (k := k) (by omega) 1 _ (by rw [(List.getElem?_eq_some_iff.1 hget).2]; rfl)
      have f1 := hown.frozenAt (k * 5 + 1)
      obtain ⟨s1, g1⟩ := hown.stored (k * 5 + 1) (.int .i64 (IntKind.i64.wrap (X[k].dp + d)))
      have hfs := flt_set1 ilC_length 1 (.int .i64 (IntKind.i64.wrap (X[k].dp + d))) (deepX d X[k]) (by omega) _ k X[k] hget rfl
      rw [hfs] at s1
      have hset : (deepBy d (X.take k) ++ X.drop k).set k (deepX d X[k]) = deepBy d (X.take (k + 1)) ++ X.drop (k + 1) := by
        rw [List.set_append_right _ _ (by rw [deepBy_is, List.length_map, List.length_take]; omega), deepBy_is, List.length_map, List.length_take, Nat.min_eq_left hk, Nat.sub_self, List.drop_eq_getElem_cons hp, List.set_cons_zero, List.take_succ_eq_append_getElem hp, deepBy_is, List.map_append, List.append_assoc]
        rfl
      rw [hset] at s1
      have hww : wrap64 (X[k].dp + d) = IntKind.i64.wrap (X[k].dp + d) := by first | rfl | simp only [wrap64, IntKind.wrap_i64]
      rw [← hww] at s1 g1
      clear hww
      have HS := Lib.hid s1
      have HG := Lib.hid g1
      clear s1 g1 hown hset hget
      generalize hx : X[k].dp = xd at *
      clear hx
      go_wp2
      go_roundw
      case rel => exact ⟨k + 1, by go_num, by omega, HS.out, hbw.setCell (p := ⟨g, k * 5 + 1, none⟩) hg _⟩
      case measure => simp [intOf]; omega
    · obtain rfl : k = X.length := by omega
      rw [List.take_length, List.drop_length, List.append_nil] at hown
      have HE := Lib.hid hown
      clear hown
      go_wp2
      go_ret
      exact ⟨_, rfl, HE.out, hbw⟩

theorem repeatL_one (b : UInt8) (n : Nat) : Lib.repeatL [b] n = List.replicate n b := by
  induction n with
  | zero => rfl
  | succ n ih => rw [Lib.repeatL, ih]; rfl
theorem row_emph (sg : UInt8) (n : Nat) (w : World) (hn : n ≤ 4294967296) :
    Calls Try.prog 25 #[.int .u8 sg.toNat, .int .i64 n] w fun e w' => e = .returned (.string ⟨(List.replicate n sg).toArray⟩) ∧ Below w.heap.size w w' := by
  have hcv := conv_u8 sg
  have cr := fun W => Try.strings_Repeat ⟨#[sg]⟩ n W (by omega) (by show 1 * n ≤ _; omega)
  have bA := (Below.refl _ w).alloc (Nat.le_refl _) (.cells #[.int .u8 sg.toNat] 5)
  have HB := Lib.hid bA
  clear bA
  go_enter Try.func25, Try.ntmps25
  go_wp2_with fail
  refine (cr _).mono ?_
  rintro e w1 ⟨rfl, b1⟩
  go_wp2
  go_ret
  exact ⟨by rw [← repeatL_one]; rfl, HB.out.then b1⟩

end Go.Proofs.Ytoomkhmmgjiniaa
