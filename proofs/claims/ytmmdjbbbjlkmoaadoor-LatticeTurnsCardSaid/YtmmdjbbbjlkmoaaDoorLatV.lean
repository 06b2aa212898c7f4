/-
  LatticeTurns: the law's walk.
-/
import Derived.Test.YtmmdjbbbjlkmoaaDoorLatM
import Derived.Test.YtmmdjbbbjlkmoaaDoorLatQ
import Derived.Laws.OwnMore
namespace Go.Proofs.YtmmdjbbbjlkmoaaDoor
open Go.RowKit
set_option linter.unusedSimpArgs false
set_option linter.unusedVariables false

/-- Which order it is hangs on which pairs there are alone. -/
theorem base_same {ps qs : List (Int × Int)} (h : ∀ x, x ∈ ps ↔ x ∈ qs) : baseR ps = baseR qs := by
  funext a b
  unfold baseR
  congr 1
  apply Bool.eq_iff_iff.2
  rw [List.contains_iff_mem, List.contains_iff_mem]
  exact h _
theorem err_same {n : Int} {ps qs : List (Int × Int)} (h : ∀ x, x ∈ ps ↔ x ∈ qs) : errS n ps = errS n qs := by
  unfold errS leqS
  rw [base_same h]
  have : ps.all (okPair n) = qs.all (okPair n) := by
    apply Bool.eq_iff_iff.2
    rw [List.all_eq_true, List.all_eq_true]
    exact ⟨fun hx x hq => hx x ((h x).2 hq), fun hx x hq => hx x ((h x).1 hq)⟩
  rw [this]
theorem leq_same {n : Nat} {ps qs : List (Int × Int)} (h : ∀ x, x ∈ ps ↔ x ∈ qs) : leqS n ps = leqS n qs := by
  unfold leqS
  rw [base_same h]
def turnS (ps : List (Int × Int)) (k : Nat) : List (Int × Int) := ps.drop k ++ ps.take k ++ ps
theorem turn_mem (ps : List (Int × Int)) (k : Nat) (x : Int × Int) : x ∈ ps ↔ x ∈ turnS ps k := by
  unfold turnS
  simp only [List.mem_append]
  constructor
  · intro h; exact Or.inr h
  · rintro ((h | h) | h)
    · exact List.mem_of_mem_drop h
    · exact List.mem_of_mem_take h
    · exact h

theorem turn_place (a : Int) {L : Nat} (h : L ≤ 1000) : ∃ k : Nat, k ≤ L ∧ (wrap64 (wrap64 (a.tmod ((L : Int) + 1) + L) + 1)).tmod ((L : Int) + 1) = (k : Int) := by
  have h2 : a.tmod ((L : Int) + 1) < (L : Int) + 1 := Int.tmod_lt_of_pos a (by omega)
  have h3 : -((L : Int) + 1) < a.tmod ((L : Int) + 1) := by
    rcases Int.le_total 0 a with h | h
    · have := Int.tmod_nonneg (a := a) ((L : Int) + 1) h; omega
    · have h4 := Int.tmod_lt_of_pos (-a) (b := (L : Int) + 1) (by omega)
      rw [Int.neg_tmod] at h4
      omega
  generalize a.tmod ((L : Int) + 1) = z at *
  have hw : wrap64 (wrap64 (z + L) + 1) = z + L + 1 := by unfold wrap64; omega
  rw [hw, Int.tmod_eq_emod_of_nonneg (by omega)]
  have h5 := Int.emod_nonneg (z + L + 1) (show (L : Int) + 1 ≠ 0 by omega)
  have h6 := Int.emod_lt_of_pos (z + L + 1) (show (0 : Int) < (L : Int) + 1 by omega)
  exact ⟨((z + L + 1) % ((L : Int) + 1)).toNat, by omega, by omega⟩

theorem PairsAt.drop {w : World} {A : Option Addr} {c : Nat} {ps : List (Int × Int)} (h : PairsAt w A c ps) (k : Nat) (hk : k ≤ ps.length) :
    PairsAt w (if c = k then A else A.map (·.add (k * 2))) (c - k) (ps.drop k) := by
  have h1 := h.1
  have h2 := h.2.1
  refine ⟨by rw [List.length_drop]; omega, by omega, ?_⟩
  by_cases he : k = ps.length
  · left; rw [he]; simp
  · rw [if_neg (by omega)]
    rcases h.2.2 with h3 | ⟨b, off, rfl, hlt, hc⟩
    · left; rw [h3]; simp
    · right
      refine ⟨b, off + k * 2, by rw [Option.map_some, addr_add], hlt, fun i hi => ?_⟩
      rw [List.length_drop] at hi
      have := hc (k + i) (by omega)
      rw [List.getElem_drop, show off + k * 2 + i * 2 = off + (k + i) * 2 from by omega]
      exact this
theorem PairsAt.take {w : World} {A : Option Addr} {c : Nat} {ps : List (Int × Int)} (h : PairsAt w A c ps) (k : Nat) : PairsAt w A c (ps.take k) := by
  refine ⟨by have := h.1; rw [List.length_take]; omega, h.2.1, ?_⟩
  rcases h.2.2 with h3 | ⟨b, off, rfl, hlt, hc⟩
  · left; rw [h3]; simp
  · right
    refine ⟨b, off, rfl, hlt, fun i hi => ?_⟩
    rw [List.length_take] at hi
    rw [List.getElem_take]
    exact hc i (by omega)

/-- A list of pairs hung behind one of the call's own. -/
theorem run_append_pairs {w : World} (base : Nat) (ty : TypeId) (v : Value) (n : Nat) (xs : List Value) (hown : w.ownsRow base 43 2 v n xs) (A : Option Addr) (c : Nat) (ps : List (Int × Int)) (hpr : PairsAt w A c ps)
    (h63 : n + ps.length ≤ 1000000) (hbase : base ≤ w.heap.size) :
    ∃ v' w', (Builtin.append_ #[22, 22] ty #[v, .slice A ps.length c]).run Tryd.prog w = .ok v' w' ∧ w'.ownsRow base 43 2 v' (n + ps.length) (xs ++ prCells ps) ∧ w.grownBy w' v.ownBlock := by
  obtain ⟨i0, hi, hz0, hz1, hz2⟩ := info_parts infoPair
  cases A with
  | none =>
    have hps : ps = [] := by
      rcases hpr.2.2 with h | ⟨b, off, e, _⟩
      · exact h
      · cases e
    subst hps
    refine ⟨v, w, ?_, by simpa [prCells] using hown, grownBy_of_below (Below.refl _ _) _⟩
    have ht := Tryd.underlying22
    rcases hown.2 with ⟨rfl, rfl⟩ | ⟨g, cap, cur, rfl, _, _, hnc, _⟩
    · simp [Builtin.append_, run_underlying ht, sizeOf, typeInfo, hi, Builtin.lenOf, Builtin.firstCells]
    · simp [Builtin.append_, run_underlying ht, sizeOf, typeInfo, hi, Builtin.lenOf, Builtin.firstCells, hnc, storeCells]
  | some ad =>
    have hnews : ∀ j u, (prCells ps)[j]? = some u → w.cell? (ad.add j) = some u := by
      intro j u hu
      have hl := prCells_length ps
      have hj : j < ps.length * 2 := by rw [← hl]; exact (List.getElem?_eq_some_iff.1 hu).1
      obtain ⟨b, off, e, _, h1, h2⟩ := hpr.at (k := j / 2) (by omega)
      cases e
      rw [addr_add]
      have hc := prCells_get ps (j / 2) (by omega)
      by_cases hp : j % 2 = 0
      · rw [show off + j = off + j / 2 * 2 from by omega, h1]
        rw [show j = j / 2 * 2 from by omega, hc.1] at hu
        exact hu
      · rw [show off + j = off + j / 2 * 2 + 1 from by omega, h2]
        rw [show j = j / 2 * 2 + 1 from by omega, hc.2] at hu
        exact hu
    have hone : ∀ u ∈ prCells ps, u.oneCell' = true := by
      intro u hu
      obtain ⟨p, _, hp⟩ := List.mem_flatMap.1 hu
      exact two_ints _ _ _ hp
    obtain ⟨v', w', hr, h2, h3, _⟩ := run_append_own (P := Tryd.prog) w base 22 ty 43 i0 (.agg #[.int .i64 0, .int .i64 0]) 2 16 Tryd.underlying22 hi hz0 hz1 hz2 rfl (by decide) v n xs hown ad ps.length c (prCells ps) (prCells_length ps) hnews hone (by unfold maxLen; omega) (by omega) hbase
    exact ⟨v', w', hr, h2, h3⟩
theorem step_append_pairs {w : World} {ops : Array Oper} {o : Oper} {a : Act} {K : Act → World → Prop} {Q : Exit → Act → World → Prop} {E : Prop} (hgd : o.guard = none) (s x : Operand)
    (ho : o.op = .call { callee := .builtin .append, args := #[s, x], argTypes := #[22, 22] })
    (base : Nat) (v : Value) (n : Nat) (xs : List Value) (hs : a.eval s = v) (hown : w.ownsRow base 43 2 v n xs) (A : Option Addr) (m c : Nat) (ps : List (Int × Int)) (hx : a.eval x = .slice A m c) (hm : m = ps.length) (hpr : PairsAt w A c ps)
    (h63 : n + ps.length ≤ 1000000) (hbase : base ≤ w.heap.size)
    (h : ∀ v' w', w'.ownsRow base 43 2 v' (n + ps.length) (xs ++ prCells ps) → w.grownBy w' v.ownBlock → K (a.put o.dst v') w') :
    if Region.wanted o (yielded ops a.tmps) = true then Oper.wp Tryd.prog o a w K Q else E := by
  have hw : Region.wanted o (yielded ops a.tmps) = true := by simp [Region.wanted, hgd]
  rw [if_pos hw]
  subst hm
  obtain ⟨v', w', hr, h2, h3⟩ := run_append_pairs base o.type v n xs hown A c ps hpr h63 hbase
  unfold Oper.wp execOp
  simp only [ho, resolve, invoke, builtin, Sem.run_bind, Sem.run_pure, Result.andThen_ok, List.map_toArray, List.map_cons, List.map_nil, hs, hx, hr]
  exact h v' w' h2 h3

set_option maxRecDepth 100000 in
set_option maxHeartbeats 8000000 in
theorem latticeTurns_walk (w : World) (hT : TabIs w) (a0 : Int) (w0 : (Lit.int .i64 a0).wf = true) (A1 : Option Addr) (c1 : Nat) (z1 : List (Int × Int)) (r1 : PairsAt w A1 c1 z1) (a2 : Int) (w2 : (Lit.int .i64 a2).wf = true) (a3 : Int) (w3 : (Lit.int .i64 a3).wf = true) (a4 : Int) (w4 : (Lit.int .i64 a4).wf = true) :
    Calls Tryd.prog 8 #[.int .i64 a0, .slice A1 z1.length c1, .int .i64 a2, .int .i64 a3, .int .i64 a4] w fun e w' => e = .returned (.bool true) ∧ Below w.heap.size w w' := by
  have ca := alive5_any w hT
  have hlen : z1.length ≤ 9223372036854775807 := by have := r1.1; have := r1.2.1; unfold maxLen at this; omega
  by_cases hbad : a0 < 1 ∨ (1 ≤ a0 ∧ 12 < a0) ∨ (1 ≤ a0 ∧ a0 ≤ 12 ∧ 40 < z1.length) ∨ (1 ≤ a0 ∧ a0 ≤ 12 ∧ z1.length ≤ 40 ∧ a3 < 0) ∨ (1 ≤ a0 ∧ a0 ≤ 12 ∧ z1.length ≤ 40 ∧ 0 ≤ a3 ∧ a4 < 0) ∨
      (1 ≤ a0 ∧ a0 ≤ 12 ∧ z1.length ≤ 40 ∧ 0 ≤ a3 ∧ 0 ≤ a4 ∧ a0 ≤ a3) ∨ (1 ≤ a0 ∧ a0 ≤ 12 ∧ z1.length ≤ 40 ∧ 0 ≤ a3 ∧ 0 ≤ a4 ∧ a3 < a0 ∧ a0 ≤ a4)
  · rcases hbad with h | ⟨h, h'⟩ | ⟨h, h', h2⟩ | ⟨h, h', h2, h3⟩ | ⟨h, h', h2, h3, h4⟩ | ⟨h, h', h2, h3, h4, h5⟩ | ⟨h, h', h2, h3, h4, h5, h6⟩
    all_goals
      clear w0 w2 w3 w4 hT r1
      go_enter Tryd.func8, Tryd.ntmps8
      go_wp2_with fail
      refine ca.mono ?_
      rintro e w3 ⟨rfl, b3⟩
      go_wp2
      go_ret
      exact ⟨rfl, b3⟩
  · obtain ⟨n, rfl⟩ : ∃ n : Nat, a0 = n := ⟨a0.toNat, by omega⟩
    have i1 : ((1 : Int) ≤ n) := by omega
    have i2 : ((n : Int) ≤ 12) := by omega
    have i3 : z1.length ≤ 40 := by omega
    have i4 : 0 ≤ a3 := by omega
    have i5 : 0 ≤ a4 := by omega
    have i6 : a3 < n := by omega
    have i7 : a4 < n := by omega
    clear hbad w0 w3 w4
    go_enter Tryd.func8, Tryd.ntmps8
    go_wp2_with fail
    refine ca.mono ?_
    rintro e w3 ⟨rfl, b3⟩
    have hT3 := hT.below b3
    have r3 := r1.below b3
    clear ca hT r1
    go_wp2_with fail
    obtain ⟨k, hk, ek⟩ := turn_place a2 (L := z1.length) (by omega)
    rw [ek]
    clear ek w2
    have hc := r3.1
    have hkc : (k : Int) ≤ c1 := by omega
    have hkl : (k : Int) ≤ z1.length := by omega
    have q1 := Lib.hid (r3.drop k hk)
    have q2 := Lib.hid (r3.take k)
    have HB3 := Lib.hid b3
    clear b3
    refine wp_region_N (fun W => True) (fun j => decide (j < 10)) (by kernel_rfl) ?_
    have hS : True := trivial
    refine wpAnyN_take_at 0 64 (v := ?_) rfl rfl (by kernel_rfl) (by kernel_rfl) (by kernel_rfl) (by kernel_rfl) (by kernel_rfl) (fun _ _ _ h => h) (by rfl) ?_ hS ?_
    rotate_left
    · intro w hSw; (try dsimp only at hSw); go_simp; (try with_reducible rfl)
    simp only [Act.put, List.setIfInBounds_toArray, List.set_cons_zero, List.set_cons_succ]
    refine wpAnyN_take_at 1 65 (v := ?_) rfl rfl (by kernel_rfl) (by kernel_rfl) (by kernel_rfl) (by kernel_rfl) (by kernel_rfl) (fun _ _ _ h => h) (by rfl) ?_ hS ?_
    rotate_left
    · intro w hSw; (try dsimp only at hSw); go_simp; (try with_reducible rfl)
    simp only [Act.put, List.setIfInBounds_toArray, List.set_cons_zero, List.set_cons_succ]
    refine wpAnyN_take_at 2 66 (v := ?_) rfl rfl (by kernel_rfl) (by kernel_rfl) (by kernel_rfl) (by kernel_rfl) (by kernel_rfl) (fun _ _ _ h => h) (by rfl) ?_ hS ?_
    rotate_left
    · intro w hSw; (try dsimp only at hSw); go_simp; (try with_reducible rfl)
    simp only [Act.put, List.setIfInBounds_toArray, List.set_cons_zero, List.set_cons_succ]
    refine wpAnyN_take_at 4 68 (v := ?_) rfl rfl (by kernel_rfl) (by kernel_rfl) (by kernel_rfl) (by kernel_rfl) (by kernel_rfl) (fun _ _ _ h => h) (by rfl) ?_ hS ?_
    rotate_left
    · intro w hSw; (try dsimp only at hSw); go_simp; (try with_reducible rfl)
    simp only [Act.put, List.setIfInBounds_toArray, List.set_cons_zero, List.set_cons_succ]
    refine wpAnyN_take_at 5 69 (v := ?_) rfl rfl (by kernel_rfl) (by kernel_rfl) (by kernel_rfl) (by kernel_rfl) (by kernel_rfl) (fun _ _ _ h => h) (by rfl) ?_ hS ?_
    rotate_left
    · intro w hSw; (try dsimp only at hSw); go_simp; (try with_reducible rfl)
    simp only [Act.put, List.setIfInBounds_toArray, List.set_cons_zero, List.set_cons_succ]
    refine wpAnyN_take_at 6 70 (v := ?_) rfl rfl (by kernel_rfl) (by kernel_rfl) (by kernel_rfl) (by kernel_rfl) (by kernel_rfl) (fun _ _ _ h => h) (by rfl) ?_ hS ?_
    rotate_left
    · intro w hSw; (try dsimp only at hSw); go_simp; (try with_reducible rfl)
    simp only [Act.put, List.setIfInBounds_toArray, List.set_cons_zero, List.set_cons_succ]
    refine wpAnyN_take_at 8 72 (v := ?_) rfl rfl (by kernel_rfl) (by kernel_rfl) (by kernel_rfl) (by kernel_rfl) (by kernel_rfl) (fun _ _ _ h => h) (by rfl) ?_ hS ?_
    rotate_left
    · intro w hSw; (try dsimp only at hSw); go_simp; (try with_reducible rfl)
    simp only [Act.put, List.setIfInBounds_toArray, List.set_cons_zero, List.set_cons_succ]
    refine wpAnyN_one (i := 3) rfl (by kernel_rfl) (fun K hK => ?_)
    refine step_append_pairs rfl (.const (.slice none 0 0)) (.tmp 66) rfl w3.heap.size _ 0 [] rfl (World.ownsRow_nil _ _ _ _) _ (z1.length - k) (c1 - k) (z1.drop k) rfl (by simp) (q1.out.below (below_drewN' (Below.refl _ _) 1)) (by rw [List.length_drop]; omega) (Nat.le_refl _) ?_
    intro v4 w4 own4 grow4
    have b4 : Below w3.heap.size w3 w4 := (below_drewN' (Below.refl _ _) 1).grown grow4 (Nat.le_refl _) (fun _ h => by cases h)
    rw [Nat.zero_add, List.nil_append] at own4
    refine hK _ _ (fun _ => trivial) ?_
    clear hK grow4
    refine wpAnyN_one (i := 7) rfl (by kernel_rfl) (fun K hK => ?_)
    refine step_append_pairs rfl (.tmp 67) (.tmp 70) rfl w3.heap.size v4 _ _ rfl own4 _ k c1 (z1.take k) rfl (by rw [List.length_take]; omega) (q2.out.below b4) (by rw [List.length_drop, List.length_take]; omega) b4.size ?_
    intro v5 w5 own5 grow5
    have b5 : Below w3.heap.size w3 w5 := b4.grown grow5 b4.size (fun g hg => (own4.lt g hg).1)
    rw [← prCells_append] at own5
    refine hK _ _ (fun _ => trivial) ?_
    clear hK grow5 own4
    refine wpAnyN_one (i := 9) rfl (by kernel_rfl) (fun K hK => ?_)
    refine step_append_pairs rfl (.tmp 71) (.tmp 72) rfl w3.heap.size v5 _ _ rfl own5 _ _ c1 z1 rfl rfl (r3.below b5) (by rw [List.length_drop, List.length_take]; omega) b5.size ?_
    intro v6 w6 own6 grow6
    have b6 : Below w3.heap.size w3 w6 := b5.grown grow6 b5.size (fun g hg => (own5.lt g hg).1)
    rw [← prCells_append, show (z1.drop k).length + (z1.take k).length + z1.length = (turnS z1 k).length from by unfold turnS; rw [List.length_append, List.length_append]] at own6
    have own7 : w6.ownsRow w3.heap.size 43 2 v6 (turnS z1 k).length (prCells (turnS z1 k)) := own6
    refine hK _ _ (fun _ => trivial) ?_
    clear hK grow6 own5 own6
    refine wpAnyN_rest 10 [_] rfl (by kernel_rfl) (by kernel_rfl) ?_
    obtain ⟨A6, c6, rfl, r6⟩ := PairsAt.own own7
    have r6b := r3.below b6
    have HT6 := Lib.hid (hT3.below b6)
    have HB6 := Lib.hid (HB3.out.then b6)
    have HER := Lib.hid (err_same (n := n) (turn_mem z1 k))
    have HLE := Lib.hid (leq_same (n := n) (turn_mem z1 k))
    generalize turnS z1 k = zt at *
    have R6 := Lib.hid r6
    have R6b := Lib.hid r6b
    generalize (if c1 = k then A1 else A1.map (fun x => x.add (k * 2))) = A4 at *
    clear own7 hS hT3 r3 q1 q2 b4 b5 b6 r6 r6b HB3
    by_cases he : errS n z1 = 0
    · have d1 := fun w1 h hp => new_ok A1 c1 n z1 w1 h hp he
      have d2 := fun w1 h hp => new_ok A6 c6 n zt w1 h hp (HER.out ▸ he)
      rw [← HLE.out] at d2
      generalize leqS n z1 = R at *
      go_wp2_with fail
      refine (d1 _ HT6.out R6b.out).mono ?_
      rintro e w8 ⟨b, rfl, b8, hbl, hl⟩
      have hT8 := HT6.out.below b8
      have HB8 := Lib.hid (HB6.out.then b8)
      have R8 := R6.out.below b8
      have HL := Lib.hid hl
      clear hl b8 d1
      go_wp2_with fail
      refine (d2 _ hT8 R8).mono ?_
      rintro e w9 ⟨b', rfl, b9, hbl', hl'⟩
      have hT9 := hT8.below b9
      have HB9 := Lib.hid (HB8.out.then b9)
      have hl := HL.out.below b9
      have x1 := fun i => join_any a3 a4 (w9.drewN i) (hT9.heap rfl) (hl.heap (w' := w9.drewN i) rfl)
      have y1 := fun i => join_any a3 a4 (w9.drewN i) (hT9.heap rfl) (hl'.heap (w' := w9.drewN i) rfl)
      have x2 := fun i => meet_any a3 a4 (w9.drewN i) (hT9.heap rfl) (hl.heap (w' := w9.drewN i) rfl)
      have y2 := fun i => meet_any a3 a4 (w9.drewN i) (hT9.heap rfl) (hl'.heap (w' := w9.drewN i) rfl)
      have x3 := fun i => leq_any a3 a4 (w9.drewN i) (hl.heap (w' := w9.drewN i) rfl)
      have y3 := fun i => leq_any a3 a4 (w9.drewN i) (hl'.heap (w' := w9.drewN i) rfl)
      generalize joinI n R a3 a4 = zj at *
      generalize meetI n R a3 a4 = zm at *
      generalize leqI n R a3 a4 = zl at *
      clear hl hl' hT8 hT9 b9 R8 d2
      go_wp2_with fail
      refine (x1 0).mono ?_
      rintro e w7 ⟨rfl, i1, rfl⟩
      go_wp2_with fail
      refine (y1 _).mono ?_
      rintro e w7 ⟨rfl, i2, rfl⟩
      go_wp2_with fail
      refine (x2 _).mono ?_
      rintro e w7 ⟨rfl, i3, rfl⟩
      go_wp2_with fail
      refine (y2 _).mono ?_
      rintro e w7 ⟨rfl, i4, rfl⟩
      go_wp2_with fail
      refine (x3 _).mono ?_
      rintro e w7 ⟨rfl, rfl⟩
      go_wp2_with fail
      refine (y3 _).mono ?_
      rintro e w7 ⟨rfl, rfl⟩
      go_wp2
      all_goals
        go_ret
        exact ⟨rfl, below_drewN' HB9.out _⟩
    · have d1 := fun w1 h hp => new_err A1 c1 n _ z1 w1 h hp rfl he
      have d2 := fun w1 h hp => new_err A6 c6 n _ zt w1 h hp HER.out.symm he
      have ne : (errS n z1 != 0) = true := by simpa using he
      generalize errS n z1 = er at *
      clear he
      go_wp2_with fail
      refine (d1 _ HT6.out R6b.out).mono ?_
      rintro e w8 ⟨rfl, b8⟩
      have hT8 := HT6.out.below b8
      have HB8 := Lib.hid (HB6.out.then b8)
      have R8 := R6.out.below b8
      clear b8 d1
      go_wp2_with fail
      refine (d2 _ hT8 R8).mono ?_
      rintro e w9 ⟨rfl, b9⟩
      go_wp2
      go_ret
      exact ⟨rfl, HB8.out.then b9⟩

end Go.Proofs.YtmmdjbbbjlkmoaaDoor
