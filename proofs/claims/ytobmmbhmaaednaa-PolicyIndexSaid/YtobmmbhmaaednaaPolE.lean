/-
  Package policy: take: what a line does to the policy that it is given.
-/
import Derived.Test.YtobmmbhmaaednaaPolD
import Derived.Test.YtobmmbhmaaednaaReg
namespace Go.Proofs.Ytobmmbhmaaednaa
open Go.RowKit
set_option linter.unusedSimpArgs false
set_option linter.unusedVariables false

/-- The library's variable holds a number. -/
def MaxL (w : World) : Prop := ∃ m, w.cell? ⟨0, 0, none⟩ = some (.int .i64 m)
theorem MaxL.below {w w' : World} (h : MaxL w) (hb : Below w.heap.size w w') : MaxL w' := by
  obtain ⟨m, hm⟩ := h
  exact ⟨m, (hb.cell (p := ⟨0, 0, none⟩) (World.block_lt_of_cell? _ _ hm)).trans hm⟩
theorem MaxL.belowB {w w' : World} {B : Nat} (h : MaxL w) (hb : Below B w w') (hB : 0 < B) : MaxL w' := by
  obtain ⟨m, hm⟩ := h
  exact ⟨m, (hb.cell (p := ⟨0, 0, none⟩) hB).trans hm⟩
theorem MaxL.lt {w : World} (h : MaxL w) : 0 < w.heap.size := by
  obtain ⟨m, hm⟩ := h
  exact World.block_lt_of_cell? _ _ hm
theorem MaxL.heap {w w' : World} (h : MaxL w) (hh : w'.heap = w.heap) : MaxL w' := by
  obtain ⟨m, hm⟩ := h
  exact ⟨m, by simpa [World.cell?, hh] using hm⟩

/-- A policy that stays while it is read. -/
structure HeldP (w0 : World) (B b : Nat) (nv bv : Value) (st : St) (W : World) : Prop where
  pol : PolIs W B b nv bv st
  bel : Below w0.heap.size w0 W
theorem index_held {w0 : World} {B b : Nat} {A A2 : Option Addr} {ca cb : Nat} {st : St} (x : List UInt8) (W : World) (h : HeldP w0 B b (.slice A st.1.length ca) (.slice A2 st.2.length cb) st W) :
    Calls Try.prog 13 #[.agg #[.slice A st.1.length ca, .slice A2 st.2.length cb], .string ⟨x.toArray⟩] W fun e w' => e = .returned (.int .i64 (idxL st.1 x)) ∧
      HeldP w0 B b (.slice A st.1.length ca) (.slice A2 st.2.length cb) st w' := by
  obtain ⟨A', c', e1, hrow, _⟩ := RowOf.own h.pol.nvs
  cases e1
  refine (index_any A ca (.slice A2 st.2.length cb) st.1 ⟨x.toArray⟩ W hrow).mono ?_
  rintro e w' ⟨rfl, hB⟩
  exact ⟨rfl, h.pol.below hB, h.bel.then hB⟩
theorem addPair_held {w0 : World} {B b : Nat} {nv bv : Value} {st : St} (a c : Int) (W : World) (hB : B ≤ w0.heap.size) (hm : st.2.length ≤ 1000000) (h : HeldP w0 B b nv bv st W) :
    Calls Try.prog 34 #[.pointer (some ⟨b, 0, none⟩), .agg #[.int .i64 a, .int .i64 c]] W fun e w' =>
      ∃ nv' bv', e = .returned (.bool (addPr st a c).isSome) ∧ PolIs w' B b nv' bv' ((addPr st a c).getD st) ∧ Keeps B b w0 w' := by
  have hs := h.bel.size
  refine (addPair_any B b nv bv st a c W (by omega) h.pol hm).mono ?_
  rintro e w' ⟨nv', bv', rfl, hp, hb⟩
  exact ⟨nv', bv', rfl, hp, Keeps.trans (.of (h.bel.mono hB)) hb⟩

theorem cutPrefix_at (l : ByteArray) (w : World) :
    Calls Try.prog 31 #[.string l, .string ⟨#[108, 101, 118, 101, 108, 32]⟩] w fun e w' =>
      e = .returned (.tuple #[.string ⟨(if Lib.hasPrefix l.data.toList lvl then l.data.toList.drop 6 else l.data.toList).toArray⟩, .bool (Lib.hasPrefix l.data.toList lvl)]) ∧ w' = w :=
  Try.strings_CutPrefix l ⟨#[108, 101, 118, 101, 108, 32]⟩ w
theorem cut_at (l : ByteArray) (w : World) (hs : l.size < 4294967281) (hm : MaxL w) :
    Calls Try.prog 33 #[.string l, .string ⟨#[32, 60, 32]⟩] w fun e w' =>
      e = .returned (.tuple #[.string ⟨(Lib.cut l.data.toList ltS).1.toArray⟩, .string ⟨(Lib.cut l.data.toList ltS).2.1.toArray⟩, .bool (Lib.cut l.data.toList ltS).2.2]) ∧ ∃ n, w' = w.drewN n := by
  obtain ⟨m, hm⟩ := hm
  exact Try.strings_Cut l ⟨#[32, 60, 32]⟩ m w hs hm

/-- What a line does that is cut into two names. -/
def cutSt (st : St) (l : List UInt8) : Option St := if (Lib.cut l ltS).2.2 then addPr st (idxL st.1 (Lib.cut l ltS).1) (idxL st.1 (Lib.cut l ltS).2.1) else none

def TakeEnd (B b : Nat) (w : World) (st : St) (o : Option St) (e : Ending) (w' : World) : Prop := ∃ nv' bv', e = .returned (.bool o.isSome) ∧ PolIs w' B b nv' bv' (o.getD st) ∧ Keeps B b w w'


/-! What stands in the way of a level: no prefix (A), or no name behind it (B). -/

set_option maxHeartbeats 2000000 in
theorem take_level (B b : Nat) (A A2 : Option Addr) (ca cb : Nat) (st : St) (l : ByteArray) (w : World) (hB : B ≤ w.heap.size) (h : PolIs w B b (.slice A st.1.length ca) (.slice A2 st.2.length cb) st) (hm : st.1.length ≤ 64) (hml : MaxL w)
    (x : List UInt8) (o : Option St) (ho : o = addLv st x) (hx : ∀ w1, Calls Try.prog 31 #[.string l, .string ⟨#[108, 101, 118, 101, 108, 32]⟩] w1 fun e w' => e = .returned (.tuple #[.string ⟨x.toArray⟩, .bool true]) ∧ w' = w1)
    (hn : ∀ w1, Calls Try.prog 14 #[.string ⟨x.toArray⟩] w1 fun e w' => e = .returned (.bool true) ∧ Below w1.heap.size w1 w') :
    Calls Try.prog 21 #[.pointer (some ⟨b, 0, none⟩), .string l] w (TakeEnd B b w st o) := by
  subst ho
  have CA := Lib.hid (fun w1 hB1 h1 => addLevel_any B b (.slice A st.1.length ca) (.slice A2 st.2.length cb) st ⟨x.toArray⟩ w1 hB1 h1 hm)
  have HP := Lib.hid h
  clear h
  go_enter Try.func21, Try.ntmps21
  go_wp2_with fail
  refine (hx _).mono ?_
  rintro e w1 ⟨rfl, rfl⟩
  go_wp2_with fail
  refine (hn _).mono ?_
  rintro e w2 ⟨rfl, b2⟩
  have hs2 := b2.size
  go_wp2_with fail
  refine (CA.out w2 (by omega) (HP.out.below b2)).mono ?_
  rintro e w3 ⟨nv', bv', rfl, hp3, b3⟩
  have H3 := Lib.hid hp3
  clear hp3
  go_wp2
  go_ret
  exact ⟨nv', bv', rfl, H3.out, Keeps.trans (.of (b2.mono hB)) b3⟩

set_option maxHeartbeats 2000000 in
theorem take_pairA (B b : Nat) (A A2 : Option Addr) (ca cb : Nat) (st : St) (l : ByteArray) (w : World) (hB : B ≤ w.heap.size) (h : PolIs w B b (.slice A st.1.length ca) (.slice A2 st.2.length cb) st) (hm2 : st.2.length ≤ 1000000) (hml : MaxL w)
    (qa qb x : List UInt8) (hx : ∀ w1, Calls Try.prog 31 #[.string l, .string ⟨#[108, 101, 118, 101, 108, 32]⟩] w1 fun e w' => e = .returned (.tuple #[.string ⟨x.toArray⟩, .bool false]) ∧ w1 = w')
    (ccu : ∀ w1, MaxL w1 → Calls Try.prog 33 #[.string l, .string ⟨#[32, 60, 32]⟩] w1 fun e w' => e = .returned (.tuple #[.string ⟨qa.toArray⟩, .string ⟨qb.toArray⟩, .bool true]) ∧ ∃ n, w' = w1.drewN n) :
    Calls Try.prog 21 #[.pointer (some ⟨b, 0, none⟩), .string l] w (TakeEnd B b w st (addPr st (idxL st.1 qa) (idxL st.1 qb))) := by
  have HC := Lib.hid ccu
  have CI := Lib.hid (fun (x : List UInt8) (W : World) hh => index_held (w0 := w) (B := B) (b := b) (A := A) (A2 := A2) (ca := ca) (cb := cb) (st := st) x W hh)
  have CP := Lib.hid (fun (W : World) hh => addPair_held (w0 := w) (B := B) (b := b) (nv := .slice A st.1.length ca) (bv := .slice A2 st.2.length cb) (st := st) (idxL st.1 qa) (idxL st.1 qb) W hB hm2 hh)
  have HP := Lib.hid h
  clear ccu h
  go_enter Try.func21, Try.ntmps21
  go_wp2_with fail
  refine (hx _).mono ?_
  rintro e w9 ⟨rfl, rfl⟩
  go_wp2_with fail
  have b2 := Below.refl w.heap.size w
  have hml2 := hml
  have hp2 := HP.out
  refine (HC.out w hml2).mono ?_
  rintro e w3 ⟨rfl, n3, rfl⟩
  have hc0 := hp2.c0
  have hc1 := hp2.c1
  have HP2 := Lib.hid hp2
  clear hx hp2
  go_wp2_with fail
  have hS : (w.drewN n3).drew.cell? ⟨b, 0, none⟩ = some (.slice A st.1.length ca) ∧ (w.drewN n3).drew.cell? ⟨b, 1, none⟩ = some (.slice A2 st.2.length cb) ∧ HeldP w B b (.slice A st.1.length ca) (.slice A2 st.2.length cb) st (w.drewN n3).drew :=
    ⟨hc0, hc1, PolIs.heap (w := w) rfl HP2.out, below_drewN' b2 (n3 + 1)⟩
  refine wp_region_N (fun W => W.cell? ⟨b, 0, none⟩ = some (.slice A st.1.length ca) ∧ W.cell? ⟨b, 1, none⟩ = some (.slice A2 st.2.length cb) ∧ HeldP w B b (.slice A st.1.length ca) (.slice A2 st.2.length cb) st W) (fun j => decide (j < 14)) (by kernel_rfl) ?_
  refine wpAnyN_take_at 0 29 (v := ?_) rfl rfl (by kernel_rfl) (by kernel_rfl) (by kernel_rfl) (by kernel_rfl) (by kernel_rfl) (fun _ _ _ h => h) (by rfl) ?_ hS ?_
  rotate_left
  · intro w hSw; (try dsimp only at hSw); go_simp; (try with_reducible rfl)
  simp only [Act.put, List.setIfInBounds_toArray, List.set_cons_zero, List.set_cons_succ]
  refine wpAnyN_take_at 1 30 (v := ?_) rfl rfl (by kernel_rfl) (by kernel_rfl) (by kernel_rfl) (by kernel_rfl) (by kernel_rfl) (fun _ _ _ h => h) (by rfl) ?_ hS ?_
  rotate_left
  · intro w hSw; (try dsimp only at hSw); go_simp; (try with_reducible rfl)
  simp only [Act.put, List.setIfInBounds_toArray, List.set_cons_zero, List.set_cons_succ]
  refine wpAnyN_take_at 2 31 (v := ?_) rfl rfl (by kernel_rfl) (by kernel_rfl) (by kernel_rfl) (by kernel_rfl) (by kernel_rfl) (fun _ _ _ h => h) (by rfl) ?_ hS ?_
  rotate_left
  · intro w hSw; (try dsimp only at hSw); go_simp; (try with_reducible rfl)
  simp only [Act.put, List.setIfInBounds_toArray, List.set_cons_zero, List.set_cons_succ]
  refine wpAnyN_take_at 3 32 (v := ?_) rfl rfl (by kernel_rfl) (by kernel_rfl) (by kernel_rfl) (by kernel_rfl) (by kernel_rfl) (fun _ _ _ h => h) (by rfl) ?_ hS ?_
  rotate_left
  · intro w hSw; (try dsimp only at hSw); go_simp; (try with_reducible rfl)
  simp only [Act.put, List.setIfInBounds_toArray, List.set_cons_zero, List.set_cons_succ]
  refine wpAnyN_take_at 4 33 (v := ?_) rfl rfl (by kernel_rfl) (by kernel_rfl) (by kernel_rfl) (by kernel_rfl) (by kernel_rfl) (fun _ _ _ h => h) (by rfl) ?_ hS ?_
  rotate_left
  · intro w hSw; (try dsimp only at hSw); go_simp; (try with_reducible rfl)
  simp only [Act.put, List.setIfInBounds_toArray, List.set_cons_zero, List.set_cons_succ]
  refine wpAnyN_take_at 5 34 (v := ?_) rfl rfl (by kernel_rfl) (by kernel_rfl) (by kernel_rfl) (by kernel_rfl) (by kernel_rfl) (fun _ _ _ h => h) (by rfl) ?_ hS ?_
  rotate_left
  · intro w hSw; (try dsimp only at hSw); go_simp; (try with_reducible rfl)
  simp only [Act.put, List.setIfInBounds_toArray, List.set_cons_zero, List.set_cons_succ]
  refine wpAnyN_take_at 6 35 (v := ?_) rfl rfl (by kernel_rfl) (by kernel_rfl) (by kernel_rfl) (by kernel_rfl) (by kernel_rfl) (fun _ _ _ h => h) (by rfl) ?_ hS ?_
  rotate_left
  · intro w hSw; (try dsimp only at hSw); go_simp; (try with_reducible rfl)
  simp only [Act.put, List.setIfInBounds_toArray, List.set_cons_zero, List.set_cons_succ]
  refine wpAnyN_take_at 8 37 (v := ?_) rfl rfl (by kernel_rfl) (by kernel_rfl) (by kernel_rfl) (by kernel_rfl) (by kernel_rfl) (fun _ _ _ h => h) (by rfl) ?_ hS ?_
  rotate_left
  · intro w hSw; (try dsimp only at hSw); go_simp; (try with_reducible rfl)
  simp only [Act.put, List.setIfInBounds_toArray, List.set_cons_zero, List.set_cons_succ]
  refine wpAnyN_take_at 9 38 (v := ?_) rfl rfl (by kernel_rfl) (by kernel_rfl) (by kernel_rfl) (by kernel_rfl) (by kernel_rfl) (fun _ _ _ h => h) (by rfl) ?_ hS ?_
  rotate_left
  · intro w hSw; (try dsimp only at hSw); go_simp; (try with_reducible rfl)
  simp only [Act.put, List.setIfInBounds_toArray, List.set_cons_zero, List.set_cons_succ]
  refine wpAnyN_take_at 10 39 (v := ?_) rfl rfl (by kernel_rfl) (by kernel_rfl) (by kernel_rfl) (by kernel_rfl) (by kernel_rfl) (fun _ _ _ h => h) (by rfl) ?_ hS ?_
  rotate_left
  · intro w hSw; (try dsimp only at hSw); go_simp; (try with_reducible rfl)
  simp only [Act.put, List.setIfInBounds_toArray, List.set_cons_zero, List.set_cons_succ]
  refine wpAnyN_take_at 11 40 (v := ?_) rfl rfl (by kernel_rfl) (by kernel_rfl) (by kernel_rfl) (by kernel_rfl) (by kernel_rfl) (fun _ _ _ h => h) (by rfl) ?_ hS ?_
  rotate_left
  · intro w hSw; (try dsimp only at hSw); go_simp; (try with_reducible rfl)
  simp only [Act.put, List.setIfInBounds_toArray, List.set_cons_zero, List.set_cons_succ]
  refine wpAnyN_one (i := 7) rfl (by kernel_rfl) (fun K hK => ?_)
  go_simp
  refine (CI.out _ _ hS.2.2).mono ?_
  rintro e w5 ⟨rfl, hS5⟩
  refine hK _ _ (fun _ => ⟨hS5.pol.c0, hS5.pol.c1, hS5⟩) ?_
  refine wpAnyN_one (i := 12) rfl (by kernel_rfl) (fun K hK => ?_)
  go_simp
  refine (CI.out _ _ hS5).mono ?_
  rintro e w6 ⟨rfl, hS6⟩
  refine hK _ _ (fun _ => ⟨hS6.pol.c0, hS6.pol.c1, hS6⟩) ?_
  clear hK hS hS5
  have hS : w6.cell? ⟨b, 0, none⟩ = some (.slice A st.1.length ca) ∧ w6.cell? ⟨b, 1, none⟩ = some (.slice A2 st.2.length cb) ∧ HeldP w B b (.slice A st.1.length ca) (.slice A2 st.2.length cb) st w6 := ⟨hS6.pol.c0, hS6.pol.c1, hS6⟩
  refine wpAnyN_take_at 13 42 (v := ?_) rfl rfl (by kernel_rfl) (by kernel_rfl) (by kernel_rfl) (by kernel_rfl) (by kernel_rfl) (fun _ _ _ h => h) (by rfl) ?_ hS ?_
  rotate_left
  · intro w hSw; (try dsimp only at hSw); go_simp; (try with_reducible rfl)
  simp only [Act.put, List.setIfInBounds_toArray, List.set_cons_zero, List.set_cons_succ]
  refine wpAnyN_rest 14 [_, _, _] rfl (by kernel_rfl) (by kernel_rfl) ?_
  clear hS
  go_wp2_with fail
  refine (CP.out _ hS6).mono ?_
  rintro e w7 ⟨nv', bv', rfl, hp7, b7⟩
  have H7 := Lib.hid hp7
  clear hp7
  go_wp2
  go_ret
  exact ⟨nv', bv', rfl, H7.out, b7⟩

set_option maxHeartbeats 2000000 in
theorem take_pairB (B b : Nat) (A A2 : Option Addr) (ca cb : Nat) (st : St) (l : ByteArray) (w : World) (hB : B ≤ w.heap.size) (h : PolIs w B b (.slice A st.1.length ca) (.slice A2 st.2.length cb) st) (hm2 : st.2.length ≤ 1000000) (hml : MaxL w)
    (qa qb x : List UInt8) (hx : ∀ w1, Calls Try.prog 31 #[.string l, .string ⟨#[108, 101, 118, 101, 108, 32]⟩] w1 fun e w' => e = .returned (.tuple #[.string ⟨x.toArray⟩, .bool true]) ∧ w1 = w')
    (hn : ∀ w1, Calls Try.prog 14 #[.string ⟨x.toArray⟩] w1 fun e w' => e = .returned (.bool false) ∧ Below w1.heap.size w1 w')
    (ccu : ∀ w1, MaxL w1 → Calls Try.prog 33 #[.string l, .string ⟨#[32, 60, 32]⟩] w1 fun e w' => e = .returned (.tuple #[.string ⟨qa.toArray⟩, .string ⟨qb.toArray⟩, .bool true]) ∧ ∃ n, w' = w1.drewN n) :
    Calls Try.prog 21 #[.pointer (some ⟨b, 0, none⟩), .string l] w (TakeEnd B b w st (addPr st (idxL st.1 qa) (idxL st.1 qb))) := by
  have HC := Lib.hid ccu
  have CI := Lib.hid (fun (x : List UInt8) (W : World) hh => index_held (w0 := w) (B := B) (b := b) (A := A) (A2 := A2) (ca := ca) (cb := cb) (st := st) x W hh)
  have CP := Lib.hid (fun (W : World) hh => addPair_held (w0 := w) (B := B) (b := b) (nv := .slice A st.1.length ca) (bv := .slice A2 st.2.length cb) (st := st) (idxL st.1 qa) (idxL st.1 qb) W hB hm2 hh)
  have HP := Lib.hid h
  clear ccu h
  go_enter Try.func21, Try.ntmps21
  go_wp2_with fail
  refine (hx _).mono ?_
  rintro e w9 ⟨rfl, rfl⟩
  go_wp2_with fail
  refine (hn _).mono ?_
  rintro e w2 ⟨rfl, b2⟩
  have hml2 := hml.below b2
  have hp2 := HP.out.below b2
  go_wp2_with fail
  refine (HC.out w2 hml2).mono ?_
  rintro e w3 ⟨rfl, n3, rfl⟩
  have hc0 := hp2.c0
  have hc1 := hp2.c1
  have HP2 := Lib.hid hp2
  clear hx hn hp2
  go_wp2_with fail
  have hS : (w2.drewN n3).drew.cell? ⟨b, 0, none⟩ = some (.slice A st.1.length ca) ∧ (w2.drewN n3).drew.cell? ⟨b, 1, none⟩ = some (.slice A2 st.2.length cb) ∧ HeldP w B b (.slice A st.1.length ca) (.slice A2 st.2.length cb) st (w2.drewN n3).drew :=
    ⟨hc0, hc1, PolIs.heap (w := w2) rfl HP2.out, below_drewN' b2 (n3 + 1)⟩
  refine wp_region_N (fun W => W.cell? ⟨b, 0, none⟩ = some (.slice A st.1.length ca) ∧ W.cell? ⟨b, 1, none⟩ = some (.slice A2 st.2.length cb) ∧ HeldP w B b (.slice A st.1.length ca) (.slice A2 st.2.length cb) st W) (fun j => decide (j < 14)) (by kernel_rfl) ?_
  refine wpAnyN_take_at 0 29 (v := ?_) rfl rfl (by kernel_rfl) (by kernel_rfl) (by kernel_rfl) (by kernel_rfl) (by kernel_rfl) (fun _ _ _ h => h) (by rfl) ?_ hS ?_
  rotate_left
  · intro w hSw; (try dsimp only at hSw); go_simp; (try with_reducible rfl)
  simp only [Act.put, List.setIfInBounds_toArray, List.set_cons_zero, List.set_cons_succ]
  refine wpAnyN_take_at 1 30 (v := ?_) rfl rfl (by kernel_rfl) (by kernel_rfl) (by kernel_rfl) (by kernel_rfl) (by kernel_rfl) (fun _ _ _ h => h) (by rfl) ?_ hS ?_
  rotate_left
  · intro w hSw; (try dsimp only at hSw); go_simp; (try with_reducible rfl)
  simp only [Act.put, List.setIfInBounds_toArray, List.set_cons_zero, List.set_cons_succ]
  refine wpAnyN_take_at 2 31 (v := ?_) rfl rfl (by kernel_rfl) (by kernel_rfl) (by kernel_rfl) (by kernel_rfl) (by kernel_rfl) (fun _ _ _ h => h) (by rfl) ?_ hS ?_
  rotate_left
  · intro w hSw; (try dsimp only at hSw); go_simp; (try with_reducible rfl)
  simp only [Act.put, List.setIfInBounds_toArray, List.set_cons_zero, List.set_cons_succ]
  refine wpAnyN_take_at 3 32 (v := ?_) rfl rfl (by kernel_rfl) (by kernel_rfl) (by kernel_rfl) (by kernel_rfl) (by kernel_rfl) (fun _ _ _ h => h) (by rfl) ?_ hS ?_
  rotate_left
  · intro w hSw; (try dsimp only at hSw); go_simp; (try with_reducible rfl)
  simp only [Act.put, List.setIfInBounds_toArray, List.set_cons_zero, List.set_cons_succ]
  refine wpAnyN_take_at 4 33 (v := ?_) rfl rfl (by kernel_rfl) (by kernel_rfl) (by kernel_rfl) (by kernel_rfl) (by kernel_rfl) (fun _ _ _ h => h) (by rfl) ?_ hS ?_
  rotate_left
  · intro w hSw; (try dsimp only at hSw); go_simp; (try with_reducible rfl)
  simp only [Act.put, List.setIfInBounds_toArray, List.set_cons_zero, List.set_cons_succ]
  refine wpAnyN_take_at 5 34 (v := ?_) rfl rfl (by kernel_rfl) (by kernel_rfl) (by kernel_rfl) (by kernel_rfl) (by kernel_rfl) (fun _ _ _ h => h) (by rfl) ?_ hS ?_
  rotate_left
  · intro w hSw; (try dsimp only at hSw); go_simp; (try with_reducible rfl)
  simp only [Act.put, List.setIfInBounds_toArray, List.set_cons_zero, List.set_cons_succ]
  refine wpAnyN_take_at 6 35 (v := ?_) rfl rfl (by kernel_rfl) (by kernel_rfl) (by kernel_rfl) (by kernel_rfl) (by kernel_rfl) (fun _ _ _ h => h) (by rfl) ?_ hS ?_
  rotate_left
  · intro w hSw; (try dsimp only at hSw); go_simp; (try with_reducible rfl)
  simp only [Act.put, List.setIfInBounds_toArray, List.set_cons_zero, List.set_cons_succ]
  refine wpAnyN_take_at 8 37 (v := ?_) rfl rfl (by kernel_rfl) (by kernel_rfl) (by kernel_rfl) (by kernel_rfl) (by kernel_rfl) (fun _ _ _ h => h) (by rfl) ?_ hS ?_
  rotate_left
  · intro w hSw; (try dsimp only at hSw); go_simp; (try with_reducible rfl)
  simp only [Act.put, List.setIfInBounds_toArray, List.set_cons_zero, List.set_cons_succ]
  refine wpAnyN_take_at 9 38 (v := ?_) rfl rfl (by kernel_rfl) (by kernel_rfl) (by kernel_rfl) (by kernel_rfl) (by kernel_rfl) (fun _ _ _ h => h) (by rfl) ?_ hS ?_
  rotate_left
  · intro w hSw; (try dsimp only at hSw); go_simp; (try with_reducible rfl)
  simp only [Act.put, List.setIfInBounds_toArray, List.set_cons_zero, List.set_cons_succ]
  refine wpAnyN_take_at 10 39 (v := ?_) rfl rfl (by kernel_rfl) (by kernel_rfl) (by kernel_rfl) (by kernel_rfl) (by kernel_rfl) (fun _ _ _ h => h) (by rfl) ?_ hS ?_
  rotate_left
  · intro w hSw; (try dsimp only at hSw); go_simp; (try with_reducible rfl)
  simp only [Act.put, List.setIfInBounds_toArray, List.set_cons_zero, List.set_cons_succ]
  refine wpAnyN_take_at 11 40 (v := ?_) rfl rfl (by kernel_rfl) (by kernel_rfl) (by kernel_rfl) (by kernel_rfl) (by kernel_rfl) (fun _ _ _ h => h) (by rfl) ?_ hS ?_
  rotate_left
  · intro w hSw; (try dsimp only at hSw); go_simp; (try with_reducible rfl)
  simp only [Act.put, List.setIfInBounds_toArray, List.set_cons_zero, List.set_cons_succ]
  refine wpAnyN_one (i := 7) rfl (by kernel_rfl) (fun K hK => ?_)
  go_simp
  refine (CI.out _ _ hS.2.2).mono ?_
  rintro e w5 ⟨rfl, hS5⟩
  refine hK _ _ (fun _ => ⟨hS5.pol.c0, hS5.pol.c1, hS5⟩) ?_
  refine wpAnyN_one (i := 12) rfl (by kernel_rfl) (fun K hK => ?_)
  go_simp
  refine (CI.out _ _ hS5).mono ?_
  rintro e w6 ⟨rfl, hS6⟩
  refine hK _ _ (fun _ => ⟨hS6.pol.c0, hS6.pol.c1, hS6⟩) ?_
  clear hK hS hS5
  have hS : w6.cell? ⟨b, 0, none⟩ = some (.slice A st.1.length ca) ∧ w6.cell? ⟨b, 1, none⟩ = some (.slice A2 st.2.length cb) ∧ HeldP w B b (.slice A st.1.length ca) (.slice A2 st.2.length cb) st w6 := ⟨hS6.pol.c0, hS6.pol.c1, hS6⟩
  refine wpAnyN_take_at 13 42 (v := ?_) rfl rfl (by kernel_rfl) (by kernel_rfl) (by kernel_rfl) (by kernel_rfl) (by kernel_rfl) (fun _ _ _ h => h) (by rfl) ?_ hS ?_
  rotate_left
  · intro w hSw; (try dsimp only at hSw); go_simp; (try with_reducible rfl)
  simp only [Act.put, List.setIfInBounds_toArray, List.set_cons_zero, List.set_cons_succ]
  refine wpAnyN_rest 14 [_, _, _] rfl (by kernel_rfl) (by kernel_rfl) ?_
  clear hS
  go_wp2_with fail
  refine (CP.out _ hS6).mono ?_
  rintro e w7 ⟨nv', bv', rfl, hp7, b7⟩
  have H7 := Lib.hid hp7
  clear hp7
  go_wp2
  go_ret
  exact ⟨nv', bv', rfl, H7.out, b7⟩

set_option maxHeartbeats 2000000 in
theorem take_noneA (B b : Nat) (A A2 : Option Addr) (ca cb : Nat) (st : St) (l : ByteArray) (w : World) (hB : B ≤ w.heap.size) (h : PolIs w B b (.slice A st.1.length ca) (.slice A2 st.2.length cb) st) (hm2 : st.2.length ≤ 1000000) (hml : MaxL w)
    (qa qb x : List UInt8) (hx : ∀ w1, Calls Try.prog 31 #[.string l, .string ⟨#[108, 101, 118, 101, 108, 32]⟩] w1 fun e w' => e = .returned (.tuple #[.string ⟨x.toArray⟩, .bool false]) ∧ w1 = w')
    (ccu : ∀ w1, MaxL w1 → Calls Try.prog 33 #[.string l, .string ⟨#[32, 60, 32]⟩] w1 fun e w' => e = .returned (.tuple #[.string ⟨qa.toArray⟩, .string ⟨qb.toArray⟩, .bool false]) ∧ ∃ n, w' = w1.drewN n) :
    Calls Try.prog 21 #[.pointer (some ⟨b, 0, none⟩), .string l] w (TakeEnd B b w st none) := by
  have HC := Lib.hid ccu
  have CI := Lib.hid (fun (x : List UInt8) (W : World) hh => index_held (w0 := w) (B := B) (b := b) (A := A) (A2 := A2) (ca := ca) (cb := cb) (st := st) x W hh)
  have CP := Lib.hid (fun (W : World) hh => addPair_held (w0 := w) (B := B) (b := b) (nv := .slice A st.1.length ca) (bv := .slice A2 st.2.length cb) (st := st) (idxL st.1 qa) (idxL st.1 qb) W hB hm2 hh)
  have HP := Lib.hid h
  clear ccu h
  go_enter Try.func21, Try.ntmps21
  go_wp2_with fail
  refine (hx _).mono ?_
  rintro e w9 ⟨rfl, rfl⟩
  go_wp2_with fail
  have b2 := Below.refl w.heap.size w
  have hml2 := hml
  have hp2 := HP.out
  refine (HC.out w hml2).mono ?_
  rintro e w3 ⟨rfl, n3, rfl⟩
  have hc0 := hp2.c0
  have hc1 := hp2.c1
  have HP2 := Lib.hid hp2
  clear hx hp2
  go_wp2_with fail
  go_quiet (fail)
  rename_i nq
  go_wp2
  go_ret
  exact ⟨_, _, rfl, PolIs.heap (w := w) rfl HP2.out, Keeps.of (below_drewN' (below_drewN' (b2.mono hB) n3) nq)⟩

set_option maxHeartbeats 2000000 in
theorem take_noneB (B b : Nat) (A A2 : Option Addr) (ca cb : Nat) (st : St) (l : ByteArray) (w : World) (hB : B ≤ w.heap.size) (h : PolIs w B b (.slice A st.1.length ca) (.slice A2 st.2.length cb) st) (hm2 : st.2.length ≤ 1000000) (hml : MaxL w)
    (qa qb x : List UInt8) (hx : ∀ w1, Calls Try.prog 31 #[.string l, .string ⟨#[108, 101, 118, 101, 108, 32]⟩] w1 fun e w' => e = .returned (.tuple #[.string ⟨x.toArray⟩, .bool true]) ∧ w1 = w')
    (hn : ∀ w1, Calls Try.prog 14 #[.string ⟨x.toArray⟩] w1 fun e w' => e = .returned (.bool false) ∧ Below w1.heap.size w1 w')
    (ccu : ∀ w1, MaxL w1 → Calls Try.prog 33 #[.string l, .string ⟨#[32, 60, 32]⟩] w1 fun e w' => e = .returned (.tuple #[.string ⟨qa.toArray⟩, .string ⟨qb.toArray⟩, .bool false]) ∧ ∃ n, w' = w1.drewN n) :
    Calls Try.prog 21 #[.pointer (some ⟨b, 0, none⟩), .string l] w (TakeEnd B b w st none) := by
  have HC := Lib.hid ccu
  have CI := Lib.hid (fun (x : List UInt8) (W : World) hh => index_held (w0 := w) (B := B) (b := b) (A := A) (A2 := A2) (ca := ca) (cb := cb) (st := st) x W hh)
  have CP := Lib.hid (fun (W : World) hh => addPair_held (w0 := w) (B := B) (b := b) (nv := .slice A st.1.length ca) (bv := .slice A2 st.2.length cb) (st := st) (idxL st.1 qa) (idxL st.1 qb) W hB hm2 hh)
  have HP := Lib.hid h
  clear ccu h
  go_enter Try.func21, Try.ntmps21
  go_wp2_with fail
  refine (hx _).mono ?_
  rintro e w9 ⟨rfl, rfl⟩
  go_wp2_with fail
  refine (hn _).mono ?_
  rintro e w2 ⟨rfl, b2⟩
  have hml2 := hml.below b2
  have hp2 := HP.out.below b2
  go_wp2_with fail
  refine (HC.out w2 hml2).mono ?_
  rintro e w3 ⟨rfl, n3, rfl⟩
  have hc0 := hp2.c0
  have hc1 := hp2.c1
  have HP2 := Lib.hid hp2
  clear hx hn hp2
  go_wp2_with fail
  go_quiet (fail)
  rename_i nq
  go_wp2
  go_ret
  exact ⟨_, _, rfl, PolIs.heap (w := w2) rfl HP2.out, Keeps.of (below_drewN' (below_drewN' (b2.mono hB) n3) nq)⟩

theorem take_any (B b : Nat) (nv bv : Value) (st : St) (l : ByteArray) (w : World) (hB : B ≤ w.heap.size) (h : PolIs w B b nv bv st) (hm : st.1.length ≤ 64) (hm2 : st.2.length ≤ 1000000) (hs : l.size < 4294967281) (hml : MaxL w) :
    Calls Try.prog 21 #[.pointer (some ⟨b, 0, none⟩), .string l] w (TakeEnd B b w st (takeL st l.data.toList)) := by
  obtain ⟨A, ca, rfl, hrow, _⟩ := RowOf.own h.nvs
  obtain ⟨A2, cb, rfl, hpr⟩ := PairsAt.own h.bvs
  have hlen : l.data.toList.length = l.size := by simp
  have cn : ∀ w1, Calls Try.prog 14 #[.string ⟨(l.data.toList.drop 6).toArray⟩] w1 fun e w' => e = .returned (.bool (nmL (l.data.toList.drop 6))) ∧ Below w1.heap.size w1 w' :=
    fun w1 => isName_any ⟨(l.data.toList.drop 6).toArray⟩ w1 (by rw [str_size, List.length_drop]; omega)
  have cpx := fun w1 => cutPrefix_at l w1
  by_cases hc : Lib.hasPrefix l.data.toList lvl = true ∧ nmL (l.data.toList.drop 6) = true
  · exact take_level B b A A2 ca cb st l w hB h hm hml (l.data.toList.drop 6) (takeL st l.data.toList) (if_pos hc) (fun w1 => by have := cpx w1; rw [if_pos hc.1, hc.1] at this; exact this) (fun w1 => by have := cn w1; rw [hc.2] at this; exact this)
  · have HF : takeL st l.data.toList = cutSt st l.data.toList := if_neg hc
    have ccu := fun w1 hm1 => cut_at l w1 hs hm1
    rw [HF]
    unfold cutSt
    generalize Lib.cut l.data.toList ltS = q at *
    obtain ⟨qa, qb, qo⟩ := q
    simp only at *
    by_cases hp : Lib.hasPrefix l.data.toList lvl = true
    · have hn : nmL (l.data.toList.drop 6) = false := by
        cases hx : nmL (l.data.toList.drop 6) with
        | false => rfl
        | true => exact absurd ⟨hp, hx⟩ hc
      have c1 : ∀ w1, Calls Try.prog 31 #[.string l, .string ⟨#[108, 101, 118, 101, 108, 32]⟩] w1 fun e w' => e = .returned (.tuple #[.string ⟨(l.data.toList.drop 6).toArray⟩, .bool true]) ∧ w1 = w' :=
        fun w1 => by have := cpx w1; rw [if_pos hp, hp] at this; exact this.mono fun e w' h => ⟨h.1, h.2.symm⟩
      have c2 := fun w1 => (by have := cn w1; rw [hn] at this; exact this : Calls Try.prog 14 #[.string ⟨(l.data.toList.drop 6).toArray⟩] w1 fun e w' => e = .returned (.bool false) ∧ Below w1.heap.size w1 w')
      cases qo with
      | true => exact take_pairB B b A A2 ca cb st l w hB h hm2 hml qa qb _ c1 c2 ccu
      | false => exact take_noneB B b A A2 ca cb st l w hB h hm2 hml qa qb _ c1 c2 ccu
    · have hp' : Lib.hasPrefix l.data.toList lvl = false := by simpa using hp
      have c1 : ∀ w1, Calls Try.prog 31 #[.string l, .string ⟨#[108, 101, 118, 101, 108, 32]⟩] w1 fun e w' => e = .returned (.tuple #[.string ⟨l.data.toList.toArray⟩, .bool false]) ∧ w1 = w' :=
        fun w1 => by have := cpx w1; rw [if_neg hp, hp'] at this; exact this.mono fun e w' h => ⟨h.1, h.2.symm⟩
      cases qo with
      | true => exact take_pairA B b A A2 ca cb st l w hB h hm2 hml qa qb _ c1 ccu
      | false => exact take_noneA B b A A2 ca cb st l w hB h hm2 hml qa qb _ c1 ccu

end Go.Proofs.Ytobmmbhmaaednaa
