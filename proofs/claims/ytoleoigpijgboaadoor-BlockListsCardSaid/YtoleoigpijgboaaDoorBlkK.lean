/-
  Package block: holds, rightKind, Right: which blocks may be.
-/
import Derived.Test.YtoleoigpijgboaaDoorBlkJ
import Derived.Test.YtoleoigpijgboaaDoorBlkR
namespace Go.Proofs.YtoleoigpijgboaaDoor
open Go.RowKit
set_option linter.unusedSimpArgs false
set_option linter.unusedVariables false
set_option maxRecDepth 100000

theorem holds_any (k : Int) (w : World) : Calls Tryd.prog 25 #[.int .i64 k] w fun e w' => e = .returned (.bool (holdsK k)) ∧ w' = w := by
  unfold holdsK
  cases h3 : (k == 3) with
  | true =>
    go_enter Tryd.func25, Tryd.ntmps25
    go_wp2
    go_ret
    exact ⟨rfl, rfl⟩
  | false =>
  cases h4 : (k == 4) with
  | true =>
    go_enter Tryd.func25, Tryd.ntmps25
    go_wp2
    go_ret
    exact ⟨rfl, rfl⟩
  | false =>
  cases h5 : (k == 5) with
  | true =>
    go_enter Tryd.func25, Tryd.ntmps25
    go_wp2
    go_ret
    exact ⟨rfl, rfl⟩
  | false =>
  cases h9 : (k == 9) with
  | true =>
    go_enter Tryd.func25, Tryd.ntmps25
    go_wp2
    go_ret
    exact ⟨rfl, rfl⟩
  | false =>
    go_enter Tryd.func25, Tryd.ntmps25
    go_wp2
    go_ret
    exact ⟨rfl, rfl⟩

set_option maxHeartbeats 4000000 in
theorem rightKind_any (x : Blk) (w : World) : Calls Tryd.prog 24 #[blkV x] w fun e w' => e = .returned (.bool (rightK x)) ∧ Below w.heap.size w w' := by
  obtain ⟨xk, xd, xn, xt, xs, xi⟩ := x
  simp only [blkV]
  have b0 : Below w.heap.size w (w.alloc (.cells #[.int .i64 xk, .int .i64 xd, .int .i64 xn, .bool xt, .string ⟨xs.toArray⟩, .string ⟨xi.toArray⟩] 28)) := (Below.refl _ w).alloc (Nat.le_refl _) _
  obtain ⟨k0, k1, k2, k3, k4, k5, kf⟩ := (blkAt_new w ⟨xk, xd, xn, xt, xs, xi⟩).cells
  dsimp only at k0 k1 k2 k3 k4 k5 kf
  have HB0 := Lib.hid b0
  clear b0
  unfold rightK
  dsimp only
  cases h2 : (xk == 2) with
  | true =>
    have e2 : xk = 2 := by simpa using h2
    subst e2
    clear h2
    cases ha : decide (xn < 1) with
    | true =>
      go_enter Tryd.func24, Tryd.ntmps24
      go_wp2
      go_ret
      exact ⟨ret_bool (by simp), HB0.out⟩
    | false =>
      cases hb : decide (6 < xn) with
      | true =>
        go_enter Tryd.func24, Tryd.ntmps24
        go_wp2
        go_ret
        exact ⟨ret_bool (by simp), HB0.out⟩
      | false =>
        go_enter Tryd.func24, Tryd.ntmps24
        go_wp2
        go_ret
        exact ⟨ret_bool (by simp), HB0.out⟩
  | false =>
    cases ha : decide (1 ≤ xk) with
    | true =>
      cases hb : decide (xk ≤ 9) with
      | true =>
        go_enter Tryd.func24, Tryd.ntmps24
        go_wp2
        go_ret
        exact ⟨ret_bool (by simp), HB0.out⟩
      | false =>
        go_enter Tryd.func24, Tryd.ntmps24
        go_wp2
        go_ret
        exact ⟨ret_bool (by simp), HB0.out⟩
    | false =>
      go_enter Tryd.func24, Tryd.ntmps24
      go_wp2
      go_ret
      exact ⟨ret_bool (by simp), HB0.out⟩

/-! ### Blocks that may be read -/
structure BlksAt (w : World) (A : Option Addr) (cap : Nat) (X : List Blk) : Prop where
  le : X.length ≤ cap
  cap : cap ≤ maxLen
  cells : X = [] ∨ ∃ b off, A = some ⟨b, off, none⟩ ∧ b < w.heap.size ∧ ∀ k (h : k < X.length) j u, (blkC X[k])[j]? = some u → w.cell? ⟨b, off + k * 6 + j, none⟩ = some u
theorem BlksAt.below {w w' : World} {A : Option Addr} {cap : Nat} {X : List Blk} (h : BlksAt w A cap X) (hb : Below w.heap.size w w') : BlksAt w' A cap X := by
  refine ⟨h.le, h.cap, ?_⟩
  rcases h.cells with h1 | ⟨b, off, e, hlt, hc⟩
  · exact Or.inl h1
  · refine Or.inr ⟨b, off, e, Nat.lt_of_lt_of_le hlt hb.size, fun k hk j u hu => ?_⟩
    rw [hb.cell (p := ⟨b, off + k * 6 + j, none⟩) hlt]
    exact hc k hk j u hu
theorem BlksAt.at {w : World} {A : Option Addr} {cap : Nat} {X : List Blk} (h : BlksAt w A cap X) {k : Nat} (hk : k < X.length) :
    ∃ b off, A = some ⟨b, off, none⟩ ∧ b < w.heap.size ∧ w.cell? ⟨b, off + k * 6, none⟩ = some (.int .i64 X[k].kind) ∧ w.cell? ⟨b, off + k * 6 + 1, none⟩ = some (.int .i64 X[k].depth) ∧ w.cell? ⟨b, off + k * 6 + 2, none⟩ = some (.int .i64 X[k].n) ∧
      w.cell? ⟨b, off + k * 6 + 3, none⟩ = some (.bool X[k].tight) ∧ w.cell? ⟨b, off + k * 6 + 4, none⟩ = some (.string ⟨X[k].text.toArray⟩) ∧ w.cell? ⟨b, off + k * 6 + 5, none⟩ = some (.string ⟨X[k].info.toArray⟩) := by
  rcases h.cells with h3 | ⟨b, off, e, hlt, hc⟩
  · rw [h3] at hk; simp at hk
  · exact ⟨b, off, e, hlt, hc k hk 0 _ rfl, hc k hk 1 _ rfl, hc k hk 2 _ rfl, hc k hk 3 _ rfl, hc k hk 4 _ rfl, hc k hk 5 _ rfl⟩
theorem BlksAt.heap {w w' : World} {A : Option Addr} {cap : Nat} {X : List Blk} (hh : w'.heap = w.heap) (h : BlksAt w A cap X) : BlksAt w' A cap X := by
  refine ⟨h.le, h.cap, ?_⟩
  rcases h.cells with h1 | ⟨b, off, e, hlt, hc⟩
  · exact Or.inl h1
  · exact Or.inr ⟨b, off, e, by rw [hh]; exact hlt, fun k hk j u hu => by have := hc k hk j u hu; simpa [World.cell?, hh] using this⟩
/-- Blocks of the call's own may be read. -/
theorem BlksAt.own {w : World} {B : Nat} {v : Value} {X : List Blk} (h : w.ownsRow B 28 6 v X.length (blksC X)) : ∃ A cap, v = .slice A X.length cap ∧ BlksAt w A cap X := by
  by_cases h0 : X.length = 0
  · obtain ⟨hl, hr⟩ := h
    have hx := List.eq_nil_of_length_eq_zero h0
    rcases hr with ⟨e1, _⟩ | ⟨g, cap, cur, e1, hb, hg, hnc, hcm, _⟩
    · exact ⟨none, 0, by rw [e1, h0], by omega, Nat.zero_le _, Or.inl hx⟩
    · exact ⟨_, cap, e1, hnc, hcm, Or.inl hx⟩
  · obtain ⟨g, cap, cur, e, hb, hlt, hnc, hcm, hg, hc⟩ := own_block h (by omega)
    exact ⟨_, cap, e, hnc, hcm, Or.inr ⟨g, 0, rfl, hlt, fun k hk j u hu => by rw [Nat.zero_add]; exact hc _ _ (blksC_get X k hk j u hu)⟩⟩

def intsV (l : List Int) : List Value := l.map (Value.int .i64)
theorem intsV_length (l : List Int) : (intsV l).length = l.length := by simp [intsV]
theorem infoI : (Tryd.prog.info? 3).map (fun i => (i.zero, i.size, i.bytes)) = some (some (.int .i64 0), 1, 8) := by kernel_rfl
/-- A list that is cut short. -/
theorem own_cut {w : World} {B : Nat} {e : TypeId} {n m cap : Nat} {A : Option Addr} {xs : List Value} (h : w.ownsRow B e 1 (.slice A n cap) n xs) (hm : m ≤ n) : w.ownsRow B e 1 (.slice A m cap) m (xs.take m) := by
  obtain ⟨hl, h⟩ := h
  rcases h with ⟨e1, h0⟩ | ⟨g', cap', cur, e1, hb, hg, hnc, hcm, hcs, ht⟩
  · cases e1
    obtain rfl : m = 0 := by omega
    exact ⟨by simp, .inl ⟨rfl, rfl⟩⟩
  · cases e1
    exact own_take ⟨hl, .inr ⟨g', cap, cur, rfl, hb, hg, hnc, hcm, hcs, ht⟩⟩ hm

def RgRel (bs : List Blk) (w : World) (z3 z4 z10 : Value) (wr : World) : Prop :=
  ∃ (k : Nat) (ar : List Int) (em : Bool), z10 = .int .i64 k ∧ z4 = .bool em ∧ k ≤ bs.length ∧ ar.length ≤ k ∧ wr.ownsRow w.heap.size 3 1 z3 ar.length (intsV ar) ∧ rightF ar em (bs.drop k) = rightB bs ∧ Below w.heap.size w wr

set_option maxHeartbeats 16000000 in
theorem bright_any (A : Option Addr) (cap : Nat) (bs : List Blk) (w : World) (hat : BlksAt w A cap bs) (hn : bs.length ≤ 50000000) :
    Calls Tryd.prog 18 #[.slice A bs.length cap] w fun e w' => e = .returned (.bool (rightB bs)) ∧ Below w.heap.size w w' := by
  obtain ⟨i0, hi, hz0, hz1, hz2⟩ := info_parts infoI
  have hcl := hat.le
  have hcm := hat.cap
  unfold maxLen at hcm
  have HA := Lib.hid hat
  clear hat
  go_enter Tryd.func18, Tryd.ntmps18
  go_wp2_with fail
  go_loopw [3, 4, 10] (fun z3 z4 z10 wr => RgRel bs w z3 z4 z10 wr) (fun _ _ z10 _ => bs.length - (intOf z10).toNat)
  case atStart => exact ⟨0, [], false, rfl, rfl, Nat.zero_le _, Nat.le_refl _, World.ownsRow_nil _ _ _ _, rfl, Below.refl _ _⟩
  case round =>
    obtain ⟨k, ar, em, rfl, rfl, hk, hak, hown, hst, hbw⟩ := hrel
    have hss := hbw.size
    by_cases hp : k < bs.length
    · obtain ⟨b9, off, hA, hb9, hc0, hc1, hc2, hc3, hc4, hc5⟩ := (HA.out.below hbw).at hp
      rw [List.drop_eq_getElem_cons hp] at hst
      generalize bs[k] = x at *
      obtain ⟨xk, xd, xn, xt, xs, xi⟩ := x
      dsimp only at hc0 hc1 hc2 hc3 hc4 hc5
      have ba : Below wr.heap.size wr (wr.alloc (.cells #[.int .i64 xk, .int .i64 xd, .int .i64 xn, .bool xt, .string ⟨xs.toArray⟩, .string ⟨xi.toArray⟩] 28)) := (Below.refl _ wr).alloc (Nat.le_refl _) _
      have hza : BlkAt (wr.alloc (.cells #[.int .i64 xk, .int .i64 xd, .int .i64 xn, .bool xt, .string ⟨xs.toArray⟩, .string ⟨xi.toArray⟩] 28)) wr.heap.size ⟨xk, xd, xn, xt, xs, xi⟩ := heap_alloc_new wr _
      have ck := rightKind_any ⟨xk, xd, xn, xt, xs, xi⟩ (wr.alloc (.cells #[.int .i64 xk, .int .i64 xd, .int .i64 xn, .bool xt, .string ⟨xs.toArray⟩, .string ⟨xi.toArray⟩] 28))
      simp only [blkV] at ck
      have HBa := Lib.hid (hbw.then ba)
      have hza2 := hza.cells
      obtain ⟨k0, k1, k2, k3, k4, k5, kf⟩ := hza2
      dsimp only at k0 k1 k2 k3 k4 k5
      have HZa := Lib.hid hza
      have HBW := Lib.hid hbw
      have HOa := Lib.hid (ownsRow_below hown ba)
      have hsa := alloc_size wr (.cells #[.int .i64 xk, .int .i64 xd, .int .i64 xn, .bool xt, .string ⟨xs.toArray⟩, .string ⟨xi.toArray⟩] 28)
      obtain ⟨A3, c3, rfl, hA3, hA3m⟩ := own_slice hown
      unfold maxLen at hA3m
      rw [rightF] at hst
      clear hza ba hbw hown
      subst hA
      cases hrk : rightK ⟨xk, xd, xn, xt, xs, xi⟩ with
      | false =>
        rw [hrk] at ck hst
        have HR := Lib.hid (show rightB bs = false from by rw [← hst]; rfl)
        clear hst hrk
        go_wp2_with fail
        refine ck.mono ?_
        rintro e w1 ⟨rfl, b1⟩
        have HB1 := Lib.hid (HBa.out.then b1)
        obtain ⟨l0, l1, l2, l3, l4, l5, lf⟩ := (HZa.out.below b1).cells
        dsimp only at l0 l1 l2 l3 l4 l5
        clear b1 ck
        go_wp2
        go_ret
        exact ⟨ret_bool (by rw [HR.out]), HB1.out⟩
      | true =>
      rw [hrk] at ck hst
      clear hrk
      cases hdk : depthK ar em ⟨xk, xd, xn, xt, xs, xi⟩ with
      | false =>
        rw [hdk] at hst
        have HR := Lib.hid (show rightB bs = false from by rw [← hst]; rfl)
        have hor : decide (xd < 0) = true ∨ (decide (xd < 0) = false ∧ decide ((ar.length : Int) < xd) = true) ∨ (decide (xd < 0) = false ∧ decide ((ar.length : Int) < xd) = false ∧ em = true ∧ decide (xd < (ar.length : Int)) = true) := by
          unfold depthK at hdk
          cases em with
          | true => simp at hdk ⊢; omega
          | false => simp at hdk ⊢; omega
        clear hst hdk
        rcases hor with f1 | ⟨f1, f2⟩ | ⟨f1, f2, rfl, f3⟩
        all_goals
          go_wp2_with fail
          refine ck.mono ?_
          rintro e w1 ⟨rfl, b1⟩
          have HB1 := Lib.hid (HBa.out.then b1)
          obtain ⟨l0, l1, l2, l3, l4, l5, lf⟩ := (HZa.out.below b1).cells
          dsimp only at l0 l1 l2 l3 l4 l5
          clear b1 ck
          go_wp2
          go_ret
          exact ⟨ret_bool (by rw [HR.out]), HB1.out⟩
      | true =>
      rw [hdk] at hst
      have hd0 : 0 ≤ xd ∧ xd ≤ ar.length ∧ (em = true → xd = ar.length) := by
        unfold depthK at hdk
        cases em with
        | true => simp at hdk ⊢; omega
        | false => simp at hdk ⊢; omega
      obtain ⟨dn, rfl⟩ : ∃ n : Nat, xd = n := ⟨xd.toNat, by omega⟩
      obtain ⟨_, hdl, hem⟩ := hd0
      have hdl : dn ≤ ar.length := by omega
      have hdc : dn ≤ c3 := by omega
      have f1 : decide ((dn : Int) < 0) = false := by simp
      have f2 : decide ((ar.length : Int) < (dn : Int)) = false := by simp; omega
      have hem2 : em = false ∨ (em = true ∧ decide ((dn : Int) < (ar.length : Int)) = false) := by
        cases em with
        | false => exact Or.inl rfl
        | true => exact Or.inr ⟨rfl, by have := hem rfl; simp; omega⟩
      have HT := Lib.hid (show (intsV ar).take dn = intsV (ar.take dn) from by simp [intsV])
      have htl : (ar.take dn).length = dn := by rw [List.length_take]; omega
      simp only [Bool.true_and, Int.toNat_natCast] at hst
      clear hdk hem
      have n2 : decide (ar.length < dn) = false := by simp; omega
      have hem3 : em = false ∨ (em = true ∧ decide (dn < ar.length) = false) := by
        rcases hem2 with h | ⟨h, h2⟩
        · exact Or.inl h
        · exact Or.inr ⟨h, by simp at h2 ⊢; omega⟩
      clear hem2
      have hslh : ∀ W, (Instr.slice 40 (.slice A3 ar.length c3) none (some (.int .i64 (dn : Int))) none).run Tryd.prog W = .ok (.slice A3 dn c3) W := fun W => by
        rw [run_slice_h W 40 A3 ar.length c3 (by kernel_rfl) .i64 (dn : Int) (by omega) (by omega)]
        rw [show Tryd.prog.elem 40 = 3 from by kernel_rfl]
        go_simp
        try (cases A3 <;> simp [sliced, Addr.add])
      have HOC := Lib.hid (fun W (hb : Below (wr.alloc (.cells #[.int .i64 xk, .int .i64 (dn : Int), .int .i64 xn, .bool xt, .string ⟨xs.toArray⟩, .string ⟨xi.toArray⟩] 28)).heap.size (wr.alloc (.cells #[.int .i64 xk, .int .i64 (dn : Int), .int .i64 xn, .bool xt, .string ⟨xs.toArray⟩, .string ⟨xi.toArray⟩] 28)) W) => own_cut (ownsRow_below HOa.out hb) hdl)
      by_cases hdz : dn = 0
      · have hin : inListK ar (dn : Int) = false := by unfold inListK; rw [hdz]; rfl
        rw [hin] at hst
        have f4 : decide ((0 : Int) < (dn : Int)) = false := by simp; omega
        have n4 : decide (0 < dn) = false := by simp; omega
        have hnz : ¬ 0 < dn := by omega
        cases h5 : (xk == 5) with
        | true =>
          rw [h5] at hst
          have HR := Lib.hid (show rightB bs = false from by rw [← hst]; rfl)
          clear hst hin hdz htl
          rcases hem3 with rfl | ⟨rfl, f3⟩
          all_goals
            go_wp2_with fail
            refine ck.mono ?_
            rintro e w1 ⟨rfl, b1⟩
            have HB1 := Lib.hid (HBa.out.then b1)
            have hs1 := b1.size
            obtain ⟨l0, l1, l2, l3, l4, l5, lf⟩ := (HZa.out.below b1).cells
            dsimp only at l0 l1 l2 l3 l4 l5
            clear b1 ck
            go_wp2
            go_ret
            exact ⟨ret_bool (by rw [HR.out]), HB1.out⟩
        | false =>
          rw [h5] at hst
          have HS := Lib.hid (show rightF (if holdsK xk then ar.take dn ++ [xk] else ar.take dn) (xk == 4) (bs.drop (k + 1)) = rightB bs from by rw [← hst]; rfl)
          clear hst hin hdz
          rcases hem3 with rfl | ⟨rfl, f3⟩
          all_goals
            go_wp2_with fail
            refine ck.mono ?_
            rintro e w1 ⟨rfl, b1⟩
            have HB1 := Lib.hid (HBa.out.then b1)
            have hs1 := b1.size
            obtain ⟨l0, l1, l2, l3, l4, l5, lf⟩ := (HZa.out.below b1).cells
            dsimp only at l0 l1 l2 l3 l4 l5
            have hcut := HOC.out w1 b1
            rw [HT.out] at hcut
            clear ck
            have chh := fun W => holds_any xk W
            cases hh : holdsK xk with
            | true =>
              rw [hh] at chh
              have HH2 := Lib.hid (show rightF (ar.take dn ++ [xk]) (xk == 4) (bs.drop (k + 1)) = rightB bs from by rw [← HS.out, hh]; rfl)
              clear hh
              have hnw := cells_one w1 (.int .i64 xk) 3
              have hrow2 := hcut.alloc (.cells #[.int .i64 xk] 3)
              have HZ1 := Lib.hid (BlkAt.below (HZa.out.below b1) ((Below.refl _ w1).alloc (Nat.le_refl _) (.cells #[.int .i64 xk] 3)))
              have hsw := alloc_size w1 (.cells #[.int .i64 xk] 3)
              clear hcut b1
              go_wp2_with fail
              refine (chh _).mono ?_
              rintro e w2 ⟨rfl, rfl⟩
              go_wp2_with (at_builtin; refine wpList_append_own _ rfl _ _ 40 rfl w.heap.size 3 i0 (.int .i64 0) 1 8 Tryd.underlying40 hi hz0 hz1 hz2 rfl (by decide) _ _ _ rfl hrow2 ⟨w2.heap.size, 0, none⟩ 1 1 [.int .i64 xk] rfl rfl hnw (by simp [Value.oneCell']) (by unfold maxLen; omega) (by omega) (by simp; omega) ?_)
              intro v' w3 hown' hgrow _
              have hb2 := (HB1.out.alloc (by omega) (.cells #[.int .i64 xk] 3)).trans (below_of_grown hgrow (fun g hg => (hrow2.lt g hg).1) (by simp; omega))
              have hz3 : BlkAt w3 wr.heap.size ⟨xk, (dn : Int), xn, xt, xs, xi⟩ := (hgrow.block wr.heap.size (Array.getElem?_eq_some_iff.1 HZ1.out).1 (fun e => own_ne hrow2 HZ1.out (by decide) e.symm)).trans HZ1.out
              obtain ⟨q0, q1, q2, q3, q4, q5, qf⟩ := hz3.cells
              dsimp only at q0 q1 q2 q3 q4 q5
              have HO2 := Lib.hid hown'
              have HB2 := Lib.hid hb2
              clear hown' hgrow hb2 hrow2 hnw hz3 hsw
              go_wp2
              go_roundw
              case rel => exact ⟨k + 1, ar.take dn ++ [xk], (xk == 4), by go_num, rfl, by omega, by rw [List.length_append, List.length_take]; simp; omega, by
                  have := HO2.out
                  rw [show intsV (ar.take dn) ++ [Value.int .i64 xk] = intsV (ar.take dn ++ [xk]) from by simp [intsV]] at this
                  rw [show (ar.take dn ++ [xk]).length = dn + 1 from by rw [List.length_append, htl]; rfl]
                  exact this, HH2.out, HB2.out⟩
              case measure => simp [intOf]; omega
            | false =>
              rw [hh] at chh
              clear b1
              have HH2 := Lib.hid (show rightF (ar.take dn) (xk == 4) (bs.drop (k + 1)) = rightB bs from by rw [← HS.out, hh]; rfl)
              have HCU := Lib.hid hcut
              clear hh hcut
              go_wp2_with fail
              refine (chh _).mono ?_
              rintro e w2 ⟨rfl, rfl⟩
              go_wp2
              go_roundw
              case rel => exact ⟨k + 1, ar.take dn, (xk == 4), by go_num, rfl, by omega, by rw [List.length_take]; omega, by rw [htl]; exact HCU.out, HH2.out, HB1.out⟩
              case measure => simp [intOf]; omega
      · obtain ⟨dm, hdm⟩ : ∃ m, dn = m + 1 := ⟨dn - 1, by omega⟩
        have hml : dm < ar.length := by omega
        have hin : inListK ar (dn : Int) = (ar[dm] == 4) := by
          unfold inListK
          rw [Int.toNat_natCast, decide_eq_true (by omega), Bool.true_and, hdm, List.take_succ_eq_append_getElem hml, List.getLast?_concat]
          simp
        rw [hin] at hst
        have f4 : decide ((0 : Int) < (dn : Int)) = true := by simp; omega
        have n4 : decide (0 < dn) = true := by simp; omega
        have hnz : 0 < dn := by omega
        have hnz2 : ¬ dn = 0 := hdz
        have hix : ((dn : Int) - 1) = (dm : Int) := by omega
        have hmd : dm < dn := by omega
        have HIX := Lib.hid (fun W (hb : Below (wr.alloc (.cells #[.int .i64 xk, .int .i64 (dn : Int), .int .i64 xn, .bool xt, .string ⟨xs.toArray⟩, .string ⟨xi.toArray⟩] 28)).heap.size (wr.alloc (.cells #[.int .i64 xk, .int .i64 (dn : Int), .int .i64 xn, .bool xt, .string ⟨xs.toArray⟩, .string ⟨xi.toArray⟩] 28)) W) => by
          obtain ⟨A', c', e, hr, _⟩ := RowOf.own (ownsRow_below HOa.out hb)
          cases e
          obtain ⟨b8, o8, e8, hb8, hc8⟩ := hr.at (by intro e; have := congrArg List.length e; rw [intsV_length, List.length_nil] at this; omega)
          have := hc8 dm (by rw [intsV_length]; exact hml)
          exact (⟨b8, o8, e8, by rw [this]; simp [intsV]⟩ : ∃ b8 o8, A3 = some ⟨b8, o8, none⟩ ∧ W.cell? ⟨b8, o8 + dm, none⟩ = some (.int .i64 ar[dm])))
        generalize ar[dm] = y at *
        have HDM := Lib.hid hdm
        cases hy : (y == 4) with
        | false =>
          rw [hy] at hst hin
          cases h5 : (xk == 5) with
          | false =>
            rw [h5] at hst
            have HS := Lib.hid (show rightF (if holdsK xk then ar.take dn ++ [xk] else ar.take dn) (xk == 4) (bs.drop (k + 1)) = rightB bs from by rw [← hst]; rfl)
            clear hst hin hdz hdm
            rcases hem3 with rfl | ⟨rfl, f3⟩
            all_goals
              go_wp2_with fail
              refine ck.mono ?_
              rintro e w1 ⟨rfl, b1⟩
              have HB1 := Lib.hid (HBa.out.then b1)
              have hs1 := b1.size
              obtain ⟨l0, l1, l2, l3, l4, l5, lf⟩ := (HZa.out.below b1).cells
              dsimp only at l0 l1 l2 l3 l4 l5
              have hcut := HOC.out w1 b1
              rw [HT.out] at hcut
              obtain ⟨b8, o8, hA8, hc8⟩ := HIX.out w1 b1
              subst hA8
              clear ck
              have chh := fun W => holds_any xk W
              cases hh : holdsK xk with
              | true =>
                rw [hh] at chh
                have HH2 := Lib.hid (show rightF (ar.take dn ++ [xk]) (xk == 4) (bs.drop (k + 1)) = rightB bs from by rw [← HS.out, hh]; rfl)
                clear hh
                have hnw := cells_one w1 (.int .i64 xk) 3
                have hrow2 := hcut.alloc (.cells #[.int .i64 xk] 3)
                have HZ1 := Lib.hid (BlkAt.below (HZa.out.below b1) ((Below.refl _ w1).alloc (Nat.le_refl _) (.cells #[.int .i64 xk] 3)))
                have hsw := alloc_size w1 (.cells #[.int .i64 xk] 3)
                clear hcut b1
                go_wp2_with fail
                refine (chh _).mono ?_
                rintro e w2 ⟨rfl, rfl⟩
                go_wp2_with (at_builtin; refine wpList_append_own _ rfl _ _ 40 rfl w.heap.size 3 i0 (.int .i64 0) 1 8 Tryd.underlying40 hi hz0 hz1 hz2 rfl (by decide) _ _ _ rfl hrow2 ⟨w2.heap.size, 0, none⟩ 1 1 [.int .i64 xk] rfl rfl hnw (by simp [Value.oneCell']) (by unfold maxLen; omega) (by omega) (by simp; omega) ?_)
                intro v' w3 hown' hgrow _
                have hb2 := (HB1.out.alloc (by omega) (.cells #[.int .i64 xk] 3)).trans (below_of_grown hgrow (fun g hg => (hrow2.lt g hg).1) (by simp; omega))
                have hz3 : BlkAt w3 wr.heap.size ⟨xk, (dn : Int), xn, xt, xs, xi⟩ := (hgrow.block wr.heap.size (Array.getElem?_eq_some_iff.1 HZ1.out).1 (fun e => own_ne hrow2 HZ1.out (by decide) e.symm)).trans HZ1.out
                obtain ⟨q0, q1, q2, q3, q4, q5, qf⟩ := hz3.cells
                dsimp only at q0 q1 q2 q3 q4 q5
                have HO2 := Lib.hid hown'
                have HB2 := Lib.hid hb2
                clear hown' hgrow hb2 hrow2 hnw hz3 hsw
                go_wp2
                go_roundw
                case rel => exact ⟨k + 1, ar.take dn ++ [xk], (xk == 4), by go_num, rfl, by omega, by rw [List.length_append, List.length_take]; simp; omega, by
                    have := HO2.out
                    rw [show intsV (ar.take dn) ++ [Value.int .i64 xk] = intsV (ar.take dn ++ [xk]) from by simp [intsV]] at this
                    rw [show (ar.take dn ++ [xk]).length = dn + 1 from by rw [List.length_append, htl]; rfl]
                    exact this, HH2.out, HB2.out⟩
                case measure => simp [intOf]; omega
              | false =>
                rw [hh] at chh
                clear b1
                have HH2 := Lib.hid (show rightF (ar.take dn) (xk == 4) (bs.drop (k + 1)) = rightB bs from by rw [← HS.out, hh]; rfl)
                have HCU := Lib.hid hcut
                clear hh hcut
                go_wp2_with fail
                refine (chh _).mono ?_
                rintro e w2 ⟨rfl, rfl⟩
                go_wp2
                go_roundw
                case rel => exact ⟨k + 1, ar.take dn, (xk == 4), by go_num, rfl, by omega, by rw [List.length_take]; omega, by rw [htl]; exact HCU.out, HH2.out, HB1.out⟩
                case measure => simp [intOf]; omega
          | true =>
            rw [h5] at hst
            have HR := Lib.hid (show rightB bs = false from by rw [← hst]; rfl)
            clear hst hin hdz htl hdm
            rcases hem3 with rfl | ⟨rfl, f3⟩
            all_goals
              go_wp2_with fail
              refine ck.mono ?_
              rintro e w1 ⟨rfl, b1⟩
              have HB1 := Lib.hid (HBa.out.then b1)
              have hs1 := b1.size
              obtain ⟨l0, l1, l2, l3, l4, l5, lf⟩ := (HZa.out.below b1).cells
              dsimp only at l0 l1 l2 l3 l4 l5
              obtain ⟨b8, o8, hA8, hc8⟩ := HIX.out w1 b1
              subst hA8
              clear b1 ck
              go_wp2
              go_ret
              exact ⟨ret_bool (by rw [HR.out]), HB1.out⟩
        | true =>
          rw [hy] at hst hin
          cases h5 : (xk == 5) with
          | false =>
            rw [h5] at hst
            have HR := Lib.hid (show rightB bs = false from by rw [← hst]; rfl)
            clear hst hin hdz htl hdm
            rcases hem3 with rfl | ⟨rfl, f3⟩
            all_goals
              go_wp2_with fail
              refine ck.mono ?_
              rintro e w1 ⟨rfl, b1⟩
              have HB1 := Lib.hid (HBa.out.then b1)
              have hs1 := b1.size
              obtain ⟨l0, l1, l2, l3, l4, l5, lf⟩ := (HZa.out.below b1).cells
              dsimp only at l0 l1 l2 l3 l4 l5
              obtain ⟨b8, o8, hA8, hc8⟩ := HIX.out w1 b1
              subst hA8
              clear b1 ck
              go_wp2
              go_ret
              exact ⟨ret_bool (by rw [HR.out]), HB1.out⟩
          | true =>
            rw [h5] at hst
            have HS := Lib.hid (show rightF (if holdsK xk then ar.take dn ++ [xk] else ar.take dn) (xk == 4) (bs.drop (k + 1)) = rightB bs from by rw [← hst]; rfl)
            clear hst hin hdz hdm
            rcases hem3 with rfl | ⟨rfl, f3⟩
            all_goals
              go_wp2_with fail
              refine ck.mono ?_
              rintro e w1 ⟨rfl, b1⟩
              have HB1 := Lib.hid (HBa.out.then b1)
              have hs1 := b1.size
              obtain ⟨l0, l1, l2, l3, l4, l5, lf⟩ := (HZa.out.below b1).cells
              dsimp only at l0 l1 l2 l3 l4 l5
              have hcut := HOC.out w1 b1
              rw [HT.out] at hcut
              obtain ⟨b8, o8, hA8, hc8⟩ := HIX.out w1 b1
              subst hA8
              clear ck
              have chh := fun W => holds_any xk W
              cases hh : holdsK xk with
              | true =>
                rw [hh] at chh
                have HH2 := Lib.hid (show rightF (ar.take dn ++ [xk]) (xk == 4) (bs.drop (k + 1)) = rightB bs from by rw [← HS.out, hh]; rfl)
                clear hh
                have hnw := cells_one w1 (.int .i64 xk) 3
                have hrow2 := hcut.alloc (.cells #[.int .i64 xk] 3)
                have HZ1 := Lib.hid (BlkAt.below (HZa.out.below b1) ((Below.refl _ w1).alloc (Nat.le_refl _) (.cells #[.int .i64 xk] 3)))
                have hsw := alloc_size w1 (.cells #[.int .i64 xk] 3)
                clear hcut b1
                go_wp2_with fail
                refine (chh _).mono ?_
                rintro e w2 ⟨rfl, rfl⟩
                go_wp2_with (at_builtin; refine wpList_append_own _ rfl _ _ 40 rfl w.heap.size 3 i0 (.int .i64 0) 1 8 Tryd.underlying40 hi hz0 hz1 hz2 rfl (by decide) _ _ _ rfl hrow2 ⟨w2.heap.size, 0, none⟩ 1 1 [.int .i64 xk] rfl rfl hnw (by simp [Value.oneCell']) (by unfold maxLen; omega) (by omega) (by simp; omega) ?_)
                intro v' w3 hown' hgrow _
                have hb2 := (HB1.out.alloc (by omega) (.cells #[.int .i64 xk] 3)).trans (below_of_grown hgrow (fun g hg => (hrow2.lt g hg).1) (by simp; omega))
                have hz3 : BlkAt w3 wr.heap.size ⟨xk, (dn : Int), xn, xt, xs, xi⟩ := (hgrow.block wr.heap.size (Array.getElem?_eq_some_iff.1 HZ1.out).1 (fun e => own_ne hrow2 HZ1.out (by decide) e.symm)).trans HZ1.out
                obtain ⟨q0, q1, q2, q3, q4, q5, qf⟩ := hz3.cells
                dsimp only at q0 q1 q2 q3 q4 q5
                have HO2 := Lib.hid hown'
                have HB2 := Lib.hid hb2
                clear hown' hgrow hb2 hrow2 hnw hz3 hsw
                go_wp2
                go_roundw
                case rel => exact ⟨k + 1, ar.take dn ++ [xk], (xk == 4), by go_num, rfl, by omega, by rw [List.length_append, List.length_take]; simp; omega, by
                    have := HO2.out
                    rw [show intsV (ar.take dn) ++ [Value.int .i64 xk] = intsV (ar.take dn ++ [xk]) from by simp [intsV]] at this
                    rw [show (ar.take dn ++ [xk]).length = dn + 1 from by rw [List.length_append, htl]; rfl]
                    exact this, HH2.out, HB2.out⟩
                case measure => simp [intOf]; omega
              | false =>
                rw [hh] at chh
                clear b1
                have HH2 := Lib.hid (show rightF (ar.take dn) (xk == 4) (bs.drop (k + 1)) = rightB bs from by rw [← HS.out, hh]; rfl)
                have HCU := Lib.hid hcut
                clear hh hcut
                go_wp2_with fail
                refine (chh _).mono ?_
                rintro e w2 ⟨rfl, rfl⟩
                go_wp2
                go_roundw
                case rel => exact ⟨k + 1, ar.take dn, (xk == 4), by go_num, rfl, by omega, by rw [List.length_take]; omega, by rw [htl]; exact HCU.out, HH2.out, HB1.out⟩
                case measure => simp [intOf]; omega
    · obtain rfl : k = bs.length := by omega
      rw [List.drop_length] at hst
      simp only [rightF] at hst
      have HR := Lib.hid hst
      have HBW := Lib.hid hbw
      clear hst hbw hown
      cases em with
      | true =>
        go_wp2
        go_ret
        exact ⟨ret_bool (by rw [← HR.out]; rfl), HBW.out⟩
      | false =>
        go_wp2
        go_ret
        exact ⟨ret_bool (by rw [← HR.out]; rfl), HBW.out⟩

end Go.Proofs.YtoleoigpijgboaaDoor
